import Derived.Test.YtingenonbkencabDoorQRtJ
import Derived.Test.YtingenonbkencabDoorQW3J
import Derived.Test.YtingenonbkencabDoorQK1
set_option linter.unusedVariables false
set_option linter.unusedSimpArgs false
namespace Go.Proofs.YtingenonbkencabDoor
open Go.RowKit (wrap32 wrap64)
def Er {σ : Type} (r : X (WS × σ)) (r' : X (WS × Unit)) : Prop := match r, r' with
 | .ok y, .ok y' => y.1 = y'.1
 | .error z, .error z' => z = z'
 | _, _ => False
theorem Er.cast {σ : Type} {r q : X (WS × σ)} {r' q' : X (WS × Unit)} (h1 : r = q) (h2 : r' = q') (h : Er q q') : Er r r' := by
 subst h1; subst h2; exact h
theorem Er.then {σ : Type} {c : X (WS × σ)} {c' : X (WS × Unit)} {p : WS × σ → X (WS × σ)} {p' : WS × Unit → X (WS × Unit)} (h : Er c c') (hp : ∀ y y', c = .ok y → y.1 = y'.1 → Er (p y) (p' y')) : Er (thenX c p) (thenX c' p') := by
 cases c with
 | ok y => cases c' with
   | ok y' => exact hp y y' rfl h
   | error z => exact h.elim
 | error z => cases c' with
   | ok y' => exact h.elim
   | error z' => exact h
theorem Er.ite {σ : Type} {p : Prop} [Decidable p] {a c : X (WS × σ)} {a' c' : X (WS × Unit)} (h1 : p → Er a a') (h2 : ¬ p → Er c c') : Er (if p then a else c) (if p then a' else c') := by
 by_cases h : p
 ·exact Er.cast (if_pos h) (if_pos h) (h1 h)
 ·exact Er.cast (if_neg h) (if_neg h) (h2 h)
theorem er_next {b b' : Nat} {M : Mode b} {rm : M.σ → Nat} (hM : KM M rm) (o size : Nat) (x : WS × M.σ) (x' : WS × Unit) (hp : 1 ≤ rm x.2) (e : x.1 = x'.1) : Er (nextX M o size x) (nextX (leaving b') o size x') := by
 obtain ⟨s, st⟩ := x
 obtain ⟨s', u⟩ := x'
 have e : s = s' := e
 subst e
 obtain ⟨st', hn, -⟩ := K_next hM o size s st hp
 exact Er.cast hn (L_next (b := b') o size s u) rfl
theorem er_ask {b b' : Nat} {M : Mode b} {rm : M.σ → Nat} (hM : KM M rm) (o size : Nat) (c : WS → Bool) (er : Int) (x : WS × M.σ) (x' : WS × Unit) (hp : 1 ≤ rm x.2) (e : x.1 = x'.1) : Er (askX M o size c er x) (askX (leaving b') o size c er x') := by
 have ea : x.1.at' = x'.1.at' := by rw [e]
 refine Er.cast (askX_then M o size c er x) (askX_then (leaving b') o size c er x') (Er.then (er_next hM o size x x' hp e) (fun y y' _ e' => ?_))
 obtain ⟨s, st⟩ := y
 obtain ⟨s', u⟩ := y'
 have e' : s = s' := e'
 subst e'
 exact Er.ite (fun _ => rfl) (fun _ => congrArg (fun z => (er, z)) ea)
theorem er_loc {b b' : Nat} {M : Mode b} (n p : Int) (x : WS × M.σ) (x' : WS × Unit) (e : x.1 = x'.1) : Er (locX M n p x) (locX (leaving b') n p x') := by
 obtain ⟨s, st⟩ := x
 obtain ⟨s', u⟩ := x'
 have e : s = s' := e
 subst e
 unfold locX
 exact Er.ite (fun _ => rfl) (fun _ => rfl)
theorem er_front {b b' : Nat} {M : Mode b} (ends makes nb : Bool) (i : Nat) (p : Int) (x : WS × M.σ) (x' : WS × Unit) (e : x.1 = x'.1) : Er (frontOk M ends makes nb i p x) (frontOk (leaving b') ends makes nb i p x') := by
 obtain ⟨s, st⟩ := x
 obtain ⟨s', u⟩ := x'
 have e : s = s' := e
 subst e
 unfold frontOk
 exact Er.ite (fun _ => rfl) (fun _ => Er.ite (fun _ => rfl) (fun _ => Er.ite (fun _ => er_loc 1 p _ _ rfl) (fun _ => rfl)))
theorem er_one {b : Nat} {M : Mode b} {rm : M.σ → Nat} (hM : KM M rm) (v : Int) (x : WS × M.σ) (x' : WS × Unit) (hp : 1 ≤ rm x.2) (e : x.1 = x'.1) : Er (oneK M v x) (oneL v x') := by
 obtain ⟨s, st⟩ := x
 obtain ⟨s', u⟩ := x'
 have e : s = s' := e
 subst e
 obtain ⟨st', hst⟩ := hM.keeps st s.at' 1 v hp
 have h1 : oneK M v (s, st) = if varOk s.fV v then .ok ({ s with at' := adv s.at' 1 }, st') else .error (13, s.at') := by unfold oneK; simp only [hst]
 refine Er.cast h1 (q' := if varOk s.fV v then .ok ({ s with at' := adv s.at' 1 }, u) else .error (13, s.at')) rfl ?_
 exact Er.ite (fun _ => rfl) (fun _ => rfl)
theorem er_vars {b : Nat} {M : Mode b} {rm : M.σ → Nat} (hM : KM M rm) : ∀ (l : List Int) (x : WS × M.σ) (x' : WS × Unit), l.length ≤ rm x.2 → x.1 = x'.1 → Er (varsK M l x) (varsL l x')
 | [], _, _, _, e => e
 | v :: r, x, x', hp, e => by
   simp only [List.length_cons] at hp
   refine Er.then (c := oneK M v x) (c' := oneL v x') (er_one hM v x x' (by omega) e) (fun y y' hy e' => er_vars hM r y y' ?_ e')
   have := oneK_goes hM.goes hy
   omega
theorem er_list {b : Nat} {M : Mode b} {rm : M.σ → Nat} (hM : KM M rm) (n : Nat) (l : List Int) (x : WS × M.σ) (x' : WS × Unit) (hp : n + 1 ≤ rm x.2) (e : x.1 = x'.1) : Er (listK M n l x) (listL n l x') := by
 obtain ⟨s, st⟩ := x
 obtain ⟨s', u⟩ := x'
 have e : s = s' := e
 subst e
 have hp : n + 1 ≤ rm st := hp
 obtain ⟨st', hn, hr⟩ := K_next hM 161 1 { s with count := l.length } st (by omega)
 have h1 : listK M n l (s, st) = if l.length = n then varsK M l ({ s with count := l.length, at' := adv s.at' 1 }, st') else .error (15, s.at') := by
  unfold listK; rw [hn]; rfl
 refine Er.cast h1 (q' := if l.length = n then varsL l ({ s with count := l.length, at' := adv s.at' 1 }, u) else .error (15, s.at')) rfl ?_
 exact Er.ite (fun h => er_vars hM l _ _ (by show l.length ≤ rm st'; omega) rfl) (fun _ => rfl)
def ErR {b : Nat} {M : Mode b} (rm : M.σ → Nat) (n : Nat) (c : X (WS × M.σ)) (c' : X (WS × Unit)) : Prop := Er c c' ∧ ∀ y, c = .ok y → n ≤ rm y.2
theorem ErR.then {b : Nat} {M : Mode b} {rm : M.σ → Nat} {n : Nat} {c : X (WS × M.σ)} {c' : X (WS × Unit)} {p : WS × M.σ → X (WS × M.σ)} {p' : WS × Unit → X (WS × Unit)} (h : ErR rm (n + 1) c c') (hp : ∀ y y', 1 ≤ rm y.2 → y.1 = y'.1 → Er (p y) (p' y'))
 (hg : ∀ a a', p a = .ok a' → rm a.2 ≤ rm a'.2 + 1) : ErR rm n (thenX c p) (thenX c' p') := by
 refine ⟨h.1.then (fun y y' hy e => hp y y' (by have := h.2 y hy; omega) e), fun y hy => ?_⟩
 obtain ⟨a, ha, hpa⟩ := then_ok hy
 have h1 := h.2 a ha
 have h2 := hg a y hpa
 omega
theorem er_parts {b b' : Nat} {M : Mode b} {rm : M.σ → Nat} (hM : KM M rm) (op : Nat) (c : X (WS × M.σ)) (c' : X (WS × Unit)) (h : ErR rm 3 c c') : Er (partsX M op c) (partsX (leaving b') op c') := by
 have hv : ∀ o {n : Nat} {c : X (WS × M.σ)} {c' : X (WS × Unit)}, ErR rm (n + 1) c c' → ErR rm n (thenX c (varPart M o)) (thenX c' (varPart (leaving b') o)) := fun o _ _ _ h => h.then (fun y y' hp e => er_ask hM _ _ _ _ y y' hp e) (fun a a' ha => ask_goes hM.goes ha)
 have hn : ∀ {n : Nat} {c : X (WS × M.σ)} {c' : X (WS × Unit)}, ErR rm (n + 1) c c' → ErR rm n (thenX c (intPart M)) (thenX c' (intPart (leaving b'))) := fun h => h.then (fun y y' hp e => er_next hM _ _ y y' hp e) (fun a a' ha => hM.goes _ _ _ _ ha)
 have hf : ∀ {n : Nat} {c : X (WS × M.σ)} {c' : X (WS × Unit)}, ErR rm (n + 1) c c' → ErR rm n (thenX c (fieldsPart M)) (thenX c' (fieldsPart (leaving b'))) := fun h => h.then (fun y y' hp e => er_ask hM _ _ _ _ y y' hp e) (fun a a' ha => ask_goes hM.goes ha)
 have hd : ∀ {n : Nat} {c : X (WS × M.σ)} {c' : X (WS × Unit)}, ErR rm (n + 1) c c' → ErR rm n (thenX c (fieldPart M)) (thenX c' (fieldPart (leaving b'))) := fun h => h.then (fun y y' hp e => er_ask hM _ _ _ _ y y' hp e) (fun a a' ha => ask_goes hM.goes ha)
 have hg : ∀ {n : Nat} {c : X (WS × M.σ)} {c' : X (WS × Unit)}, ErR rm (n + 1) c c' → ErR rm n (thenX c (globalPart M)) (thenX c' (globalPart (leaving b'))) := fun h => h.then (fun y y' hp e => er_ask hM _ _ _ _ y y' hp e) (fun a a' ha => ask_goes hM.goes ha)
 have ht : ∀ {n : Nat} {c : X (WS × M.σ)} {c' : X (WS × Unit)}, ErR rm (n + 1) c c' → ErR rm n (thenX c (targetPart M)) (thenX c' (targetPart (leaving b'))) := fun h => h.then (fun y y' hp e => er_ask hM _ _ _ _ y y' hp e) (fun a a' ha => ask_goes hM.goes ha)
 match op with
 | 1 => exact (hn (hv 155 h)).1
 | 2 => exact (hv 156 (hv 155 h)).1
 | 3 => exact (hv 157 (hv 156 (hv 155 h))).1
 | 4 => exact (hv 157 (hv 156 (hv 155 h))).1
 | 5 => exact (hv 156 (hv 155 h)).1
 | 6 => exact (hf (hv 155 h)).1
 | 7 => exact (hd (hv 156 (hv 155 h))).1
 | 8 => exact (hd (hv 156 (hv 155 h))).1
 | 9 => exact (hg (hv 155 h)).1
 | 10 => exact (hg (hv 156 h)).1
 | 12 => exact (hv 156 h).1
 | 13 => exact (ht h).1
 | 14 => exact (ht (hv 156 h)).1
 | 16 => exact (hv 155 h).1
 | 17 => exact (hv 157 (hv 156 (hv 155 h))).1
 | 0 => exact h.1
 | 11 => exact h.1
 | 15 => exact h.1
 | m + 18 => exact h.1
theorem er_instr {b b' : Nat} {M : Mode b} {rm : M.σ → Nat} (hM : KM M rm) (heads : List (Nat × Nat)) (hPR : ∀ k : Nat, (heads.getD k (0, 0)).1 ≤ 8 ∧ (heads.getD k (0, 0)).2 ≤ 4) (fR i : Nat) (hfR : fR ≤ 4) (la lr : List Int) (x : WS × M.σ) (s' : WS) (hp : 20 ≤ rm x.2) (e : x.1 = s') :
 Er (instrK M heads fR i la lr x) (instrL (b := b') heads fR i la lr s') := by
 obtain ⟨s, st⟩ := x
 have e : s = s' := e
 subst e
 have hp : 20 ≤ rm st := hp
 obtain ⟨st', hn, hr⟩ := K_next hM 154 1 s st (by omega)
 have h1 : instrK M heads fR i la lr (s, st) = if 1 ≤ s.op ∧ s.op ≤ 17 then
  (if s.op = 15 then retK M fR la (frontOk M true false (nbK 15 s la.length lr.length) i s.at' ({ s with at' := adv s.at' 1 }, st'))
   else if s.op = 11 then callK M heads la lr (frontOk M false false (nbK 11 s la.length lr.length) i s.at' ({ s with at' := adv s.at' 1 }, st'))
   else partsX M s.op.toNat (frontOk M (s.op == 13) (s.op == 6) (nbK s.op.toNat s la.length lr.length) i s.at' ({ s with at' := adv s.at' 1 }, st')))
  else .error (12, s.at') := by unfold instrK; rw [hn]; rfl
 have room : ∀ ends makes nb y, frontOk M ends makes nb i s.at' ({ s with at' := adv s.at' 1 }, st') = .ok y → 19 ≤ rm y.2 := fun ends makes nb y hy => by
  rw [front_snd hy]; show 19 ≤ rm st'; omega
 refine Er.cast h1 (q' := if 1 ≤ s.op ∧ s.op ≤ 17 then
  (if s.op = 15 then retL (b := b') fR la (frontOk (leaving b') true false (nbK 15 s la.length lr.length) i s.at' ({ s with at' := adv s.at' 1 }, ()))
   else if s.op = 11 then callL (b := b') heads la lr (frontOk (leaving b') false false (nbK 11 s la.length lr.length) i s.at' ({ s with at' := adv s.at' 1 }, ()))
   else partsX (leaving b') s.op.toNat (frontOk (leaving b') (s.op == 13) (s.op == 6) (nbK s.op.toNat s la.length lr.length) i s.at' ({ s with at' := adv s.at' 1 }, ())))
  else .error (12, s.at')) rfl ?_
 refine Er.ite (fun _ => Er.ite (fun _ => ?_) (fun _ => Er.ite (fun _ => ?_) (fun _ => ?_))) (fun _ => rfl)
 ·exact Er.then (er_front true false _ i _ _ _ rfl) (fun y y' hy e => er_list hM fR la y y' (by have := room _ _ _ y hy; omega) e)
 ·have hc : Er (thenX (frontOk M false false (nbK 11 s la.length lr.length) i s.at' ({ s with at' := adv s.at' 1 }, st')) (calleePart M heads.length)) (thenX (frontOk (leaving b') false false (nbK 11 s la.length lr.length) i s.at' ({ s with at' := adv s.at' 1 }, ())) (calleePart (leaving b') heads.length)) :=
   Er.then (er_front false false _ i _ _ _ rfl) (fun y y' hy e => er_ask hM _ _ _ _ y y' (by have := room _ _ _ y hy; omega) e)
  refine Er.then hc (fun y y' hy e => ?_)
  have r1 : 18 ≤ rm y.2 := by
   obtain ⟨a, ha, hpa⟩ := then_ok hy
   have h1 := room _ _ _ a ha
   have h2 := ask_goes hM.goes hpa
   omega
  have en : y.1.n = y'.1.n := by rw [e]
  have b1 := hPR y.1.n.toNat
  rw [← en]
  exact Er.then (er_list hM _ la y y' (by omega) e) (fun z z' hz e2 => er_list hM _ lr z z' (by have := listK_goes hM.goes hz; omega) e2)
 ·exact er_parts hM _ _ _ ⟨er_front _ _ _ i _ _ _ rfl, fun y hy => by have := room _ _ _ y hy; omega⟩
theorem er_head {b b' : Nat} {M : Mode b} {rm : M.σ → Nat} (hM : KM M rm) (x : WS × M.σ) (x' : WS × Unit) (hp : 4 ≤ rm x.2) (e : x.1 = x'.1) : Er (headX M x) (headX (leaving b') x') := by
 have ea : x.1.at' = x'.1.at' := by rw [e]
 refine Er.cast (headX_then M x) (headX_then (leaving b') x') ?_
 refine Er.then (er_next hM 149 1 x x' (by omega) e) (fun y1 y1' h1 e1 => ?_)
 have r1 := hM.goes _ _ _ _ h1
 refine Er.then (er_next hM 150 1 y1 y1' (by omega) e1) (fun y2 y2' h2 e2 => ?_)
 have r2 := hM.goes _ _ _ _ h2
 refine Er.then (er_next hM 151 1 y2 y2' (by omega) e2) (fun y3 y3' h3 e3 => ?_)
 have r3 := hM.goes _ _ _ _ h3
 refine Er.then (er_next hM 153 2 y3 y3' (by omega) e3) (fun y4 y4' h4 e4 => ?_)
 have ho : headOk y4.1 x.1.at' = headOk y4'.1 x'.1.at' := by rw [e4, ea]
 have ev : y4.1.fV = y4'.1.fV := by rw [e4]
 rw [ho, ev, ea]
 cases headOk y4'.1 x'.1.at' with
 | error z => exact rfl
 | ok u => exact er_loc _ _ _ _ e4
theorem er_heads {b b' : Nat} {M : Mode b} {rm : M.σ → Nat} (hM : KM M rm) : ∀ (fs : List PF) (x : WS × M.σ) (s' : WS), 4 * fs.length ≤ rm x.2 → x.1 = s' → Er (headsK M fs x) (headsP b' fs s')
 | [], _, _, _, e => e
 | f :: r, x, s', hp, e => by
   simp only [List.length_cons] at hp
   subst e
   refine Er.then (c := headX M (inF f x.1, x.2)) (c' := headX (leaving b') (inF f x.1, ())) (er_head hM _ _ (by show 4 ≤ rm x.2; omega) rfl) (fun y y' hy e' => er_heads hM r y y'.1 ?_ e')
   have h1 := headK_goes hM.goes hy
   have h1 : rm x.2 ≤ rm y.2 + 4 := h1
   omega
theorem er_code {b b' : Nat} {M : Mode b} {rm : M.σ → Nat} (hM : KM M rm) (heads : List (Nat × Nat)) (hPR : ∀ k : Nat, (heads.getD k (0, 0)).1 ≤ 8 ∧ (heads.getD k (0, 0)).2 ≤ 4) (hPR' : ∀ j (h : j < heads.length), heads[j].1 ≤ 8 ∧ heads[j].2 ≤ 4) (fR : Nat) (hfR : fR ≤ 4) : ∀ (l : List PI) (i : Nat) (x : WS × M.σ) (s' : WS), 20 * l.length ≤ rm x.2 → x.1 = s' →
 Er (codeK M heads fR i l x) (codeP b' heads fR i l s') ∧ ∀ y, codeK M heads fR i l x = .ok y → rm x.2 ≤ rm y.2 + 20 * l.length
 | [], _, _, _, _, e => ⟨e, fun y hy => by cases hy; simp⟩
 | c :: r, i, x, s', hp, e => by
   simp only [List.length_cons] at hp ⊢
   subst e
   have go1 : ∀ y, instrK M heads fR i c.args c.rets (inI c x.1, x.2) = .ok y → rm x.2 ≤ rm y.2 + 20 := fun y hy => instrK_goes hM.goes hPR' hfR (x := (inI c x.1, x.2)) hy
   refine ⟨Er.then (c := instrK M heads fR i c.args c.rets (inI c x.1, x.2)) (c' := instrL (b := b') heads fR i c.args c.rets (inI c x.1)) (er_instr hM heads hPR fR i hfR c.args c.rets _ _ (by show 20 ≤ rm x.2; omega) rfl) (fun y y' hy e' => (er_code hM heads hPR hPR' fR hfR r (i + 1) y y'.1 ?_ e').1), fun y hy => ?_⟩
   ·have := go1 y hy; omega
   ·obtain ⟨a, ha, hpa⟩ := then_ok hy
    have h1 := go1 a ha
    have h2 := (er_code (b' := b') hM heads hPR hPR' fR hfR r (i + 1) a a.1 (by omega) rfl).2 y hpa
    omega
theorem er_funcs {b b' : Nat} {M : Mode b} {rm : M.σ → Nat} (hM : KM M rm) (heads : List (Nat × Nat)) (hPR : ∀ k : Nat, (heads.getD k (0, 0)).1 ≤ 8 ∧ (heads.getD k (0, 0)).2 ≤ 4) (hPR' : ∀ j (h : j < heads.length), heads[j].1 ≤ 8 ∧ heads[j].2 ≤ 4) : ∀ (fs : List PF) (x : WS × M.σ) (s' : WS), (∀ f ∈ fs, HeadF f) → 81920 * fs.length ≤ rm x.2 → x.1 = s' →
 Er (funcsK M heads fs x) (funcsP b' heads fs s')
 | [], _, _, _, _, e => e
 | f :: r, x, s', hF, hp, e => by
   simp only [List.length_cons] at hp
   subst e
   obtain ⟨-, -, h3, h4, h5⟩ := hF f (by simp)
   have hc := er_code (b' := b') hM heads hPR hPR' f.R.toNat (by omega) f.code 0 (inF f x.1, x.2) (inF f x.1) (by show 20 * f.code.length ≤ rm x.2; omega) rfl
   refine Er.then (c := codeK M heads f.R.toNat 0 f.code (inF f x.1, x.2)) (c' := codeP b' heads f.R.toNat 0 f.code (inF f x.1)) hc.1 (fun y y' hy e' => er_funcs hM heads hPR hPR' r y y'.1 (fun f' h' => hF f' (by simp [h'])) ?_ e')
   have h6 := hc.2 y hy
   have h6 : rm x.2 ≤ rm y.2 + 20 * f.code.length := h6
   omega
theorem headsK_goes {b : Nat} {M : Mode b} {rm : M.σ → Nat} (hR : RoomGoes M rm) : ∀ {fs : List PF} {x y : WS × M.σ}, headsK M fs x = .ok y → rm x.2 ≤ rm y.2 + 4 * fs.length
 | [], _, _, h => by cases h; simp
 | f :: r, x, y, h => by
   obtain ⟨a, ha, hpa⟩ := then_ok h
   have h1 : rm x.2 ≤ rm a.2 + 4 := headK_goes hR (x := (inF f x.1, x.2)) ha
   have h2 := headsK_goes hR hpa
   simp only [List.length_cons]
   omega
theorem er_over {b wb g0 K b' R : Nat} (hR : RoomOk R) (G : Int) (fs : List PF) (v : Value) : Er (overK (writing b wb g0 K) G fs (WS.start v, ((R, magicL) : Nat × List UInt8))) (overP b' G fs (WS.start v)) := by
 have hM := writing_KM b wb g0 K
 obtain ⟨hR1, hR2⟩ := hR
 have p0 : Pos (({ WS.start v with globals := G, count := (fs.length : Nat) } : WS), ((R, magicL) : Nat × List UInt8)) := ⟨rfl, hR2⟩
 refine Er.then (er_ask hM 146 1 _ 18 ({ WS.start v with globals := G, count := (fs.length : Nat) }, ((R, magicL) : Nat × List UInt8)) ({ WS.start v with globals := G, count := (fs.length : Nat) }, ()) (by show 1 ≤ R; omega) rfl) (fun y1 y1' h1 e1 => ?_)
 have r1 := ask_goes hM.goes h1
 have r1 : R ≤ (y1.2 : Nat × List UInt8).1 + 1 := r1
 obtain ⟨n1, c1⟩ := ask_next h1
 have w1 := (wr_next (b := b) (o := 146) (by simp [places]) (by omega) p0 n1)
 refine Er.then (er_ask hM 161 2 _ 20 y1 y1' (by show 1 ≤ (y1.2 : Nat × List UInt8).1; omega) e1) (fun y2 y2' h2 e2 => ?_)
 have r2 := ask_goes hM.goes h2
 have r2 : (y1.2 : Nat × List UInt8).1 ≤ (y2.2 : Nat × List UInt8).1 + 1 := r2
 obtain ⟨n2, c2⟩ := ask_next h2
 have w2 := (wr_next (b := b) (o := 161) (by simp [places]) (by omega) w1.2.pos n2)
 have k1 : y1.1.count = (fs.length : Nat) := by rw [w1.1]
 have k2 : y2.1.count = (fs.length : Nat) := by rw [w2.1]; exact k1
 have c2 := of_decide_eq_true c2
 rw [k2] at c2
 refine Er.then (er_heads (b' := b') hM fs y2 y2'.1 (by show 4 * fs.length ≤ (y2.2 : Nat × List UInt8).1; omega) e2) (fun y3 y3' h3 e3 => ?_)
 obtain ⟨w3, hF, -⟩ := heads_sm (br := 0) (rv := nilS) (bs := []) w2.2.pos h3
 have r3 : (y2.2 : Nat × List UInt8).1 ≤ (y3.2 : Nat × List UInt8).1 + 4 * fs.length := headsK_goes hM.goes h3
 have hhd : ∀ k : Nat, ((headsOfP fs).getD k (0, 0)).1 ≤ 8 ∧ ((headsOfP fs).getD k (0, 0)).2 ≤ 4 := fun k => by
  by_cases hk : k < fs.length
  ·have e : (headsOfP fs).getD k (0, 0) = (fs[k].P.toNat, fs[k].R.toNat) := by simp [headsOfP, List.getD, hk]
   rw [e]
   obtain ⟨-, q2, q3, -⟩ := hF fs[k] (List.getElem_mem hk)
   exact ⟨by show fs[k].P.toNat ≤ 8; omega, by show fs[k].R.toNat ≤ 4; omega⟩
  ·have e : (headsOfP fs).getD k (0, 0) = (0, 0) := by simp [headsOfP, List.getD, Nat.le_of_not_lt hk]
   rw [e]
   exact ⟨Nat.zero_le _, Nat.zero_le _⟩
 have hhd' : ∀ j (h : j < (headsOfP fs).length), (headsOfP fs)[j].1 ≤ 8 ∧ (headsOfP fs)[j].2 ≤ 4 := fun j h => by
  have := hhd j
  have e : (headsOfP fs).getD j (0, 0) = (headsOfP fs)[j] := by simp [List.getD, h]
  rw [e] at this
  exact this
 exact er_funcs (b' := b') hM (headsOfP fs) hhd hhd' fs y3 y3'.1 hF (by show 81920 * fs.length ≤ (y3.2 : Nat × List UInt8).1; omega) e3
theorem enc_check {n R : Nat} (hR : RoomOk R) (G : Int) (fs : List PF) : match encK n R G fs with | .ok _ => checkP G fs = 0 | .error z => checkP G fs = z.1 ∧ z.1 ≠ 0 := by
 have h := er_over (b := n + 4) (wb := n + 2) (g0 := n + 1) (K := n + 8) (b' := 0) hR G fs (writerFn (n + 2))
 have hs := sim_answer 0 (writerFn (n + 2)) G fs
 have hk : encK n R G fs = overK (writing (n + 4) (n + 2) (n + 1) (n + 8)) G fs (WS.start (writerFn (n + 2)), ((R, magicL) : Nat × List UInt8)) := rfl
 rw [hk]
 unfold checkP
 cases h1 : overK (writing (n + 4) (n + 2) (n + 1) (n + 8)) G fs (WS.start (writerFn (n + 2)), ((R, magicL) : Nat × List UInt8)) with
 | ok y =>
   rw [h1] at h
   cases h2 : overP 0 G fs (WS.start (writerFn (n + 2))) with
   | error z => rw [h2] at h; exact h.elim
   | ok y' =>
     rw [h2] at hs
     obtain ⟨y2, hy2, -⟩ := hs.okk
     simp only [hy2]
 | error z =>
   rw [h1] at h
   cases h2 : overP 0 G fs (WS.start (writerFn (n + 2))) with
   | ok y' => rw [h2] at h; exact h.elim
   | error z' =>
     rw [h2] at h hs
     have e : z = z' := h
     subst e
     have e2 := hs.err
     simp only [e2]
     exact ⟨trivial, told_overP 0 G fs _ z h2⟩
theorem encK_told {n R : Nat} (hR : RoomOk R) {G : Int} {fs : List PF} {z : Int × Int} (h : encK n R G fs = .error z) : z.1 ≠ 0 := by
 have := enc_check (n := n) hR G fs
 rw [h] at this
 exact this.2
set_option maxRecDepth 100000
set_option maxHeartbeats 1000000
theorem enc1_gen (wv pv b : Nat) (G : Int) (fv : Value) (w : World) (hw : w.cell? ⟨wv, 0, none⟩ = some (.pointer (some ⟨b, 0, none⟩))) (h0 : w.cell? ⟨pv, 0, none⟩ = some (vI G)) (a : Option Addr) (l c : Nat) (hfv : fv = .slice a l c) (h1 : w.cell? ⟨pv, 1, none⟩ = some fv) (J : World → Prop) (Pn : Int → Int → World → Prop)
 (ho : Calls Tryd.prog 22 #[.pointer (some ⟨b, 0, none⟩), .agg #[vI G, fv]] w fun e w' => (e = .returned (.tuple #[]) ∧ J w') ∨ ∃ er at', e = .panicked (viol er at') ∧ Pn er at' w') :
 Calls Tryd.prog 21 #[.pointer (some ⟨wv, 0, none⟩), .pointer (some ⟨pv, 0, none⟩)] w fun e w' => (e = .returned (.tuple #[]) ∧ J w') ∨ ∃ er at', e = .panicked (viol er at') ∧ Pn er at' w' := by
 subst hfv
 go_enter Tryd.func21, Tryd.ntmps21
 go_wp2_with fail
 refine ho.mono ?_
 rintro e w1 (⟨rfl, hQ⟩ | ⟨er, at', rfl, hQ⟩)
 ·clear ho
  go_wp2_with fail
  go_end0
  exact Or.inl ⟨rfl, hQ⟩
 ·clear ho
  go_wp2_with fail
  exact ⟨rfl, Or.inr ⟨er, at', rfl, hQ⟩⟩
theorem first_enc1 {R : Nat} (hR : RoomOk R) (w : World) (G : Int) (fs : List PF) (fv : Value) (b0 : Nat) (hl : FL b0 w fv fs) (hT : Tab w) (h0 : 0 < w.heap.size) :
 Calls Tryd.prog 20 #[.func (.func 21) #[] #[.pointer (some ⟨w.heap.size + 5, 0, none⟩), .pointer (some ⟨w.heap.size, 0, none⟩)]]
  ((((((w.alloc (.cells #[vI G, fv] 24)).alloc (.cells magicC 5 (6, 7))).alloc (.cells #[.slice (some ⟨w.heap.size + 1, 0, none⟩) 6 6] 45)).alloc (.cells rowsC 67)).alloc (.cells (WS.start (writerFn (w.heap.size + 2))).cells 69)).alloc (.cells #[.pointer (some ⟨w.heap.size + 4, 0, none⟩)] 46))
  (Said1 (w.heap.size + 6) (EncJ R w G fs fv) (EncN R w G fs fv)) := by
 obtain ⟨s0, s1, s2, s4, s5, s6, hsz, hsf⟩ := startP_at w G fv
 have e6 : ((((((w.alloc (.cells #[vI G, fv] 24)).alloc (.cells magicC 5 (6, 7))).alloc (.cells #[.slice (some ⟨w.heap.size + 1, 0, none⟩) 6 6] 45)).alloc (.cells rowsC 67)).alloc (.cells (WS.start (writerFn (w.heap.size + 2))).cells 69)).alloc (.cells #[.pointer (some ⟨w.heap.size + 4, 0, none⟩)] 46)).heap.size = w.heap.size + 6 := by simp
 have := firstViolation_any 21 #[.pointer (some ⟨w.heap.size + 5, 0, none⟩), .pointer (some ⟨w.heap.size, 0, none⟩)]
  ((((((w.alloc (.cells #[vI G, fv] 24)).alloc (.cells magicC 5 (6, 7))).alloc (.cells #[.slice (some ⟨w.heap.size + 1, 0, none⟩) 6 6] 45)).alloc (.cells rowsC 67)).alloc (.cells (WS.start (writerFn (w.heap.size + 2))).cells 69)).alloc (.cells #[.pointer (some ⟨w.heap.size + 4, 0, none⟩)] 46))
  (EncJ R w G fs fv) (EncN R w G fs fv) (fun _ => by kernel_rfl) ?_
 ·rw [e6] at this; exact this
 ·obtain ⟨-, a, c, ea, -⟩ := id hl
  have hun : ∀ w', Fr (fun k => k = w.heap.size + 4 ∨ k = w.heap.size + 2) (startP w G fv) w' → Unsaid ((((((w.alloc (.cells #[vI G, fv] 24)).alloc (.cells magicC 5 (6, 7))).alloc (.cells #[.slice (some ⟨w.heap.size + 1, 0, none⟩) 6 6] 45)).alloc (.cells rowsC 67)).alloc (.cells (WS.start (writerFn (w.heap.size + 2))).cells 69)).alloc (.cells #[.pointer (some ⟨w.heap.size + 4, 0, none⟩)] 46)).heap.size w' := fun w' hf => by
   rw [e6]
   refine unsaid_of ?_
   rw [hf.block _ (by omega) (by omega)]
   exact s6
  refine (enc1_gen (w.heap.size + 5) w.heap.size (w.heap.size + 4) G fv (startP w G fv) ?_ ?_ a fs.length c ea ?_ (EncJ R w G fs fv) (EncN R w G fs fv) (over_encP hR w G fs fv b0 hl hT h0)).mono ?_
  ·unfold World.cell?; simp [s5]
  ·unfold World.cell?; simp [s0]
  ·unfold World.cell?; simp [s0]
  ·rintro e w' (⟨rfl, hJ⟩ | ⟨er, at', rfl, hN⟩)
   ·exact ⟨hun w' hJ.1, Or.inl ⟨rfl, hJ⟩⟩
   ·exact ⟨hun w' hN.1, Or.inr ⟨er, at', rfl, hN⟩⟩
def EncE (R : Nat) (w : World) (G : Int) (fs : List PF) (e : Ending) (w' : World) : Prop :=
 Fr (fun _ => False) w w' ∧ match encK w.heap.size R G fs with
  | .ok y => ∃ a c, e = .returned (.tuple #[.slice a y.2.2.length c, vI 0]) ∧ Handed w' (.slice a y.2.2.length c) y.2.2
  | .error z => e = .returned (.tuple #[.slice none 0 0, vI z.1])
theorem encode_any {R : Nat} (hR : RoomOk R) (w : World) (G : Int) (fs : List PF) (fv : Value) (b0 : Nat) (hl : FL b0 w fv fs) (hT : Tab w) (h0 : 0 < w.heap.size) :
 Calls Tryd.prog 6 #[.agg #[vI G, fv]] w (EncE R w G fs) := by
 have hmf : ∀ (fn : _root_.Go.Fn) (first cap : Array Value) (w : World), (Instr.makeFunc fn first cap).run Tryd.prog w = .ok (.func fn first cap) w := fun _ _ _ _ => rfl
 obtain ⟨s0, s1, s2, s4, s5, s6, hsz, hsf⟩ := startP_at w G fv
 have hcv : (convert 27 27 (.slice (some ⟨w.heap.size + 1, 0, none⟩) 6 6)).run Tryd.prog ((w.alloc (.cells #[vI G, fv] 24)).alloc (.cells magicC 5)) = .ok (.slice (some ⟨w.heap.size + 1, 0, none⟩) 6 6) ((w.alloc (.cells #[vI G, fv] 24)).alloc (.cells magicC 5 (6, 7))) := by
  have := Go.Lib.run_convert_bytes_const (P := Tryd.prog) (w.alloc (.cells #[vI G, fv] 24)) 27 5 magicC 6 6 Tryd.underlying27 (by kernel_rfl)
  simpa using this
 have hfv := first_enc1 hR w G fs fv b0 hl hT h0
 obtain ⟨-, a, c, ea, -⟩ := hl
 subst ea
 unfold writerFn at hfv
 go_enter Tryd.func6, Tryd.ntmps6
 go_wp2_with fail
 refine (newWalk_any _ _ _ _).mono ?_
 rintro e w1 ⟨rfl, rfl⟩
 go_wp2_with fail
 refine hfv.mono ?_
 rintro e w2 ⟨er, at', w3, rfl, rfl, hcase⟩
 clear hfv hcv
 have hfd : ∀ (v : World), (Instr.field 50 (.agg #[vI er, vI at']) 0).run Tryd.prog v = .ok (vI er) v := fun _ => by kernel_rfl
 have hf4 : Fr (fun k => k = w.heap.size + 6) w3 ((w3.setCell ⟨w.heap.size + 6, 0, none⟩ (vI er)).setCell ⟨w.heap.size + 6, 1, none⟩ (vI at')) := Fr.setCell (Fr.setCell (Fr.refl (fun k => k = w.heap.size + 6) w3) _ _ (Or.inl rfl)) _ _ (Or.inl rfl)
 have hff : Fr (fun k => k = w.heap.size + 4 ∨ k = w.heap.size + 2) (startP w G (.slice a fs.length c)) w3 := hcase.elim (fun h => h.2.2.1) (fun h => h.1)
 have hend : Hd (∀ w4, Fr (fun k => k = w.heap.size + 6) w3 w4 → Fr (fun _ => False) w w4) := fun w4 h4 => by
  have h1 : Fr (fun k => w.heap.size ≤ k) w w4 := ((hsf.mono (fun _ _ h => h.elim)).trans (hff.mono (fun k _ hk => by omega))).trans (h4.mono (fun k _ hk => by omega))
  exact h1.mono (fun k hk hS => by omega)
 have h6' : w3.heap[w.heap.size + 6]? = some (.cells #[vI 0, vI 0] 50) := by rw [hff.block _ (by omega) (by omega)]; exact s6
 rcases hcase with ⟨rfl, rfl, -, y, bv, hy, hb2, hbh, a2, c2, rfl⟩ | ⟨-, hy⟩
 ·have HY : Hd (encK w.heap.size R G fs = .ok y) := hy
  clear hy hff
  have hb4 : ((w3.setCell ⟨w.heap.size + 6, 0, none⟩ (vI 0)).setCell ⟨w.heap.size + 6, 1, none⟩ (vI 0)).heap[w.heap.size + 2]? = some (.cells #[.slice a2 y.2.2.length c2] 45) := by
   rw [hf4.block _ (Array.getElem?_eq_some_iff.1 hb2).1 (by omega)]; exact hb2
  have HB : Hd (∀ w4, Fr (fun k => k = w.heap.size + 6) w3 w4 → Handed w4 (.slice a2 y.2.2.length c2) y.2.2) := fun w4 h4 => hbh.spared h4 h6'
  clear hbh hb2 h6'
  generalize ((w3.setCell ⟨w.heap.size + 6, 0, none⟩ (vI 0)).setCell ⟨w.heap.size + 6, 1, none⟩ (vI 0)) = w4 at hf4 hb4 ⊢
  have hfin : Hd (∀ w5, Fr (fun k => k = w.heap.size + 6) w3 w5 → EncE R w G fs (.returned (.tuple #[.slice a2 y.2.2.length c2, vI 0])) w5) := fun w5 h5 => by
   refine ⟨hend.out _ h5, ?_⟩
   rw [HY.out]
   exact ⟨a2, c2, rfl, HB.out _ h5⟩
  have c2' : w4.cell? ⟨w.heap.size + 1 + 1, 0, none⟩ = some (.slice a2 y.2.2.length c2) := by unfold World.cell?; simp [hb4]
  have hl2 : w.heap.size + 1 + 1 < w4.heap.size := cell_lt c2'
  clear HB HY hend
  generalize y.2.2.length = ny at c2' hfin ⊢
  go_wp2_with fail
  go_ret2
  exact hfin.out _ (hf4.trans (Fr.alloc (Fr.refl _ w4) _))
 ·have hne : (er == 0) = false := by
   have := encK_told hR hy
   simpa using this
  have HY : Hd (encK w.heap.size R G fs = .error (er, at')) := hy
  clear hy hff h6'
  generalize ((w3.setCell ⟨w.heap.size + 6, 0, none⟩ (vI er)).setCell ⟨w.heap.size + 6, 1, none⟩ (vI at')) = w4 at hf4 ⊢
  go_wp2_with fail
  go_region
  all_goals go_wp2_with fail
  all_goals go_ret2
  all_goals
   refine ⟨hend.out _ (hf4.trans ?_), ?_⟩
   ·repeat first
     | exact Fr.refl _ _
     | refine Fr.drew ?_
     | refine Fr.alloc ?_ _
   ·rw [HY.out]; rfl
theorem enc_doc {n R : Nat} (hR : RoomOk R) {G : Int} {fs : List PF} {y : WS × (Nat × List UInt8)} (h : encK n R G fs = .ok y) : y.2.2 = docAll G fs := over_doc (b := n + 4) (wb := n + 2) (g0 := n + 1) (K := n + 8) hR.2 h
set_option maxRecDepth 100000
set_option maxHeartbeats 1000000
def Bo (w : World) (B : Nat) (v : Value) (bs : List UInt8) : Prop := w.ownsRow B 5 1 v bs.length (bs.map u8v) ∧ B ≤ w.heap.size
theorem Bo.fr {S : Nat → Prop} {w w' : World} {B : Nat} {v : Value} {bs : List UInt8} (h : Bo w B v bs) (f : Fr S w w') (hS : ∀ k, B ≤ k → ¬ S k) : Bo w' B v bs := ⟨ownsRow_frL h.1 f (fun k e => hS k (World.ownsRow.lt h.1 k e).1), Nat.le_trans h.2 f.size⟩
def Sb (w : World) (B k : Nat) : Prop := B ≤ k ∧ ∃ cs f, w.heap[k]? = some (.cells cs 5 f)
def Fb (B : Nat) (w w' : World) : Prop := Fr (Sb w B) w w'
theorem Fb.refl (B : Nat) (w : World) : Fb B w w := Fr.refl _ w
theorem Fb.fr {B : Nat} {w w' : World} (h : Fb B w w') : Fr (fun k => B ≤ k) w w' := h.mono (fun _ _ e => e.1)
theorem Fb.trans {B : Nat} {w w1 w2 : World} (h : Fb B w w1) (k : Fb B w1 w2) : Fb B w w2 := by
 refine Fr.then h k (fun j hj e => ?_)
 obtain ⟨e1, cs, f, e2⟩ := e
 by_cases hs : Sb w B j
 ·exact hs
 ·exact ⟨e1, cs, f, by rw [← h.block j hj hs]; exact e2⟩
theorem Fb.keep {B : Nat} {w w' : World} (h : Fb B w w') {j t : Nat} {cs : Array Value} (hb : w.heap[j]? = some (.cells cs t)) (ht : t ≠ 5) : w'.heap[j]? = some (.cells cs t) := by
 rw [h.block j (heap_lt hb) (fun ⟨_, cs', f, e⟩ => by rw [hb] at e; cases e; exact ht rfl)]
 exact hb
theorem Bo.more {w w' : World} {B : Nat} {v v' : Value} {bs : List UInt8} {c : UInt8} (h : Bo w B v bs) (o : Obj) (h' : w'.ownsRow B 5 1 v' (bs.length + 1) (bs.map u8v ++ [u8v c])) (g : (w.alloc o).grownBy w' v.ownBlock) : Bo w' B v' (bs ++ [c]) ∧ Fb B w w' := by
 have f : Fb B w w' := Fr.trans (Fr.alloc (Fr.refl _ w) _) ((grown_frL g).mono (fun j _ hj => by
  refine ⟨(World.ownsRow.lt h.1 j hj).1, ?_⟩
  rcases h.1.2 with ⟨e, -⟩ | ⟨g', cap, cur, e, -, hb, -⟩
  ·rw [e] at hj; cases hj
  ·rw [e] at hj; cases hj; exact ⟨cur, _, hb⟩))
 refine ⟨⟨?_, Nat.le_trans h.2 f.size⟩, f⟩
 rw [List.length_append, List.map_append]
 exact h'
theorem add_any (v : Value) (bs : List UInt8) (B : Nat) (x n : Nat) (w : World) (h : Bo w B v bs) (hl : bs.length ≤ 10000000000000) (hx : x < 18446744073709551616) (hn : n ≤ 8) :
 Calls Tryd.prog 24 #[v, .int .u64 x, .int .i64 n] w fun e w' => ∃ v', e = .returned v' ∧ Bo w' B v' (bs ++ leBytes n x) ∧ Fb B w w' := by
 obtain ⟨i5, hi5, hz5, hs5, hb5⟩ := info_parts (P := Tryd.prog) (e := 5) (z := .int .u8 0) (size := 1) (bytes := 1) (by kernel_rfl)
 go_enter Tryd.func24, Tryd.ntmps24
 go_wp2_with fail
 go_loopw [0, 1, 7] (fun u z i wr => ∃ (k m : Nat) (cs : List UInt8), k ≤ n ∧ i = .int .i64 k ∧ z = .int .u64 m ∧ m < 18446744073709551616 ∧ Bo wr B u cs ∧ cs.length = bs.length + k ∧ Hd (cs ++ leBytes (n - k) m = bs ++ leBytes n x) ∧ Fb B w wr) (fun _ _ i _ => match i with | .int _ q => n - q.toNat | _ => 0)
 case atStart => exact ⟨0, x, bs, Nat.zero_le _, rfl, rfl, hx, h, rfl, rfl, Fb.refl _ _⟩
 case round =>
  obtain ⟨k, m, cs, hk, rfl, rfl, hm, hb, hcl, HE, hfr⟩ := hrel
  by_cases hlt : k < n
  ·obtain ⟨c, hc⟩ : ∃ c, c = UInt8.ofNat (m % 256) := ⟨_, rfl⟩
   have hbv : (m : Int) % 256 = (c.toNat : Nat) := by
    have : c.toNat = m % 256 := by rw [hc]; simp
    omega
   have HS : Hd ((cs ++ [c]) ++ leBytes (n - (k + 1)) (m / 256) = bs ++ leBytes n x) := by
    have h1 := HE.out
    rw [show n - k = (n - (k + 1)) + 1 by omega] at h1
    unfold Hd
    rw [← h1, hc, List.append_assoc]
    rfl
   have hcell1 : ∀ (j : Nat) (u : Value), [u8v c][j]? = some u → (wr.alloc (.cells #[u8v c] 5)).cell? ((⟨wr.heap.size, 0, none⟩ : Addr).add j) = some u := by
    intro j u hu
    rw [addr_add, World.cell?_alloc_new]
    simpa using hu
   have hkb : cs.length + 1 ≤ maxLen := by unfold maxLen; omega
   have hBw := hb.2
   have HB : Hd (Bo wr B u0 cs) := hb
   clear hc HE
   go_wp2_with ((at_builtin; refine wpList_append_own _ rfl (.tmp 13) (.tmp 17) 27 rfl B 5 i5 (.int .u8 0) 1 1 Tryd.underlying27 hi5 hz5 hs5 hb5 rfl (by omega) u0 cs.length _ rfl (hb.1.alloc _) ⟨wr.heap.size, 0, none⟩ 1 1 [u8v c] rfl rfl hcell1 (by intro u hu; simp at hu; subst hu; rfl) hkb (by omega) (by simp; omega) ?_; intro v1 w6 hown6 hgrow6 hnil6))
   obtain ⟨hb6, hf6⟩ := HB.out.more _ hown6 hgrow6
   exact ⟨⟨k + 1, m / 256, cs ++ [c], by omega, by simp, by simp, by omega, hb6, by simp; omega, HS.out, hfr.trans hf6⟩, by simp; omega⟩
  ·have hkn : k = n := by omega
   subst hkn
   go_wp2_with fail
   go_ret
   refine ⟨_, rfl, ?_, hfr⟩
   have := HE.out
   rw [Nat.sub_self] at this
   rw [← this]
   simpa [leBytes] using hb
def IB (B : Nat) (w : World) (v : Value) (l : List Int) : Prop :=
 ∃ a c, v = .slice a l.length c ∧ (l ≠ [] → ∃ k o, a = some ⟨k, o, none⟩ ∧ k < B ∧ k < w.heap.size ∧ ∀ j (h : j < l.length), w.cell? ⟨k, o + j, none⟩ = some (vI l[j]))
theorem IB.fb {B : Nat} {w w' : World} {v : Value} {l : List Int} (h : IB B w v l) (f : Fb B w w') : IB B w' v l := by
 obtain ⟨a, c, e, h⟩ := h
 refine ⟨a, c, e, fun hne => ?_⟩
 obtain ⟨k, o, e, hB, hk, hc⟩ := h hne
 exact ⟨k, o, e, hB, Nat.lt_of_lt_of_le hk f.size, fun j hj => (f.fr.cell hk (by omega)).trans (hc j hj)⟩
theorem u8_le (z : Int) : ∃ c : UInt8, IntKind.u8.wrap z = (c.toNat : Nat) ∧ leN 1 z = [c] := by
 refine ⟨UInt8.ofNat ((IntKind.u64.wrap z).toNat % 256), ?_, rfl⟩
 have h1 : (UInt8.ofNat ((IntKind.u64.wrap z).toNat % 256)).toNat = (IntKind.u64.wrap z).toNat % 256 := by simp
 rw [h1]
 simp only [IntKind.wrap, IntKind.signed, IntKind.bits]
 simp
 omega
theorem blist_any (v lv : Value) (bs : List UInt8) (l : List Int) (B : Nat) (w : World) (h : Bo w B v bs) (hv : IB B w lv l) (hl : bs.length ≤ 10000000000000) (hll : l.length ≤ 255) :
 Calls Tryd.prog 46 #[v, lv] w fun e w' => ∃ v', e = .returned v' ∧ Bo w' B v' (bs ++ lst l) ∧ Fb B w w' := by
 obtain ⟨i5, hi5, hz5, hs5, hb5⟩ := info_parts (P := Tryd.prog) (e := 5) (z := .int .u8 0) (size := 1) (bytes := 1) (by kernel_rfl)
 obtain ⟨a, c, rfl, hcs⟩ := hv
 obtain ⟨c0, hc0, hl0⟩ := u8_le (l.length : Nat)
 have HL0 : Hd (leN 1 (l.length : Nat) = [c0]) := hl0
 have hcell1 : ∀ (j : Nat) (u : Value), [u8v c0][j]? = some u → (w.alloc (.cells #[u8v c0] 5)).cell? ((⟨w.heap.size, 0, none⟩ : Addr).add j) = some u := by
  intro j u hu
  rw [addr_add, World.cell?_alloc_new]
  simpa using hu
 have hkb : bs.length + 1 ≤ maxLen := by unfold maxLen; omega
 have hBw := h.2
 have HB : Hd (Bo w B v bs) := h
 have HC : Hd _ := hcs
 clear hl0 hcs
 go_enter Tryd.func46, Tryd.ntmps46
 go_wp2_with ((at_builtin; refine wpList_append_own _ rfl (.tmp 6) (.tmp 10) 27 rfl B 5 i5 (.int .u8 0) 1 1 Tryd.underlying27 hi5 hz5 hs5 hb5 rfl (by omega) v bs.length _ rfl (h.1.alloc _) ⟨w.heap.size, 0, none⟩ 1 1 [u8v c0] rfl rfl hcell1 (by intro u hu; simp at hu; subst hu; rfl) hkb (by omega) (by simp; omega) ?_; intro v1 w6 hown6 hgrow6 hnil6))
 obtain ⟨hb6, hf6⟩ := HB.out.more _ hown6 hgrow6
 clear hown6 hgrow6 hnil6 hcell1 hkb h HB
 go_loopw [0, 5] (fun u i wr => ∃ (k : Nat), k ≤ l.length ∧ i = .int .i64 k ∧ Bo wr B u (bs ++ [c0] ++ (l.take k).flatMap (leN 1)) ∧ Hd (((l.take k).flatMap (leN 1)).length = k) ∧ Fb B w wr) (fun _ i _ => match i with | .int _ q => l.length - q.toNat | _ => 0)
 case atStart => exact ⟨0, Nat.zero_le _, rfl, by simpa using hb6, rfl, hf6⟩
 case round =>
  obtain ⟨k, hk, rfl, hb, HK, hfr⟩ := hrel
  by_cases hlt : k < l.length
  ·obtain ⟨g, o, rfl, hgB, hg, hcs⟩ := HC.out (by intro e; simp [e] at hlt)
   have hck : wr.cell? ⟨g, o + k, none⟩ = some (vI l[k]) := (hfr.fr.cell hg (by omega)).trans (hcs k hlt)
   have hgl : g < wr.heap.size := Nat.lt_of_lt_of_le hg hfr.size
   have htk : Hd ((l.take (k + 1)).flatMap (leN 1) = (l.take k).flatMap (leN 1) ++ leN 1 l[k]) := by
    unfold Hd
    rw [List.take_add_one, List.flatMap_append]
    simp [List.getElem?_eq_getElem hlt]
   obtain ⟨ck, hc1, hl1⟩ := u8_le l[k]
   have HL1 : Hd (leN 1 l[k] = [ck]) := hl1
   generalize l[k] = z at hck hc1 htk HL1
   have hcell1 : ∀ (j : Nat) (u : Value), [u8v ck][j]? = some u → (wr.alloc (.cells #[u8v ck] 5)).cell? ((⟨wr.heap.size, 0, none⟩ : Addr).add j) = some u := by
    intro j u hu
    rw [addr_add, World.cell?_alloc_new]
    simpa using hu
   have hln : (bs ++ [c0] ++ (l.take k).flatMap (leN 1)).length = bs.length + 1 + k := by rw [List.length_append, List.length_append, HK.out]; rfl
   generalize hcs' : bs ++ [c0] ++ (l.take k).flatMap (leN 1) = cs at hb hln
   have HCS : Hd (bs ++ [c0] ++ (l.take k).flatMap (leN 1) = cs) := hcs'
   have hkb : cs.length + 1 ≤ maxLen := by unfold maxLen; omega
   have hBw' := hb.2
   have HB : Hd (Bo wr B u0 cs) := hb
   have hkn : (0 : Int) ≤ k ∧ (k : Int) < l.length := by omega
   clear hcs hl1 hcs'
   go_wp2_with ((at_builtin; refine wpList_append_own _ rfl (.tmp 18) (.tmp 24) 27 rfl B 5 i5 (.int .u8 0) 1 1 Tryd.underlying27 hi5 hz5 hs5 hb5 rfl (by omega) u0 cs.length _ rfl (hb.1.alloc _) ⟨wr.heap.size, 0, none⟩ 1 1 [u8v ck] rfl rfl hcell1 (by intro u hu; simp at hu; subst hu; rfl) hkb (by omega) (by simp; omega) ?_; intro v2 w7 hown7 hgrow7 hnil7))
   obtain ⟨hb7, hf7⟩ := HB.out.more _ hown7 hgrow7
   refine ⟨⟨k + 1, by omega, by simp, ?_, ?_, hfr.trans hf7⟩, by simp; omega⟩
   ·rw [htk.out, HL1.out, ← List.append_assoc, HCS.out]; exact hb7
   ·unfold Hd
    rw [htk.out, HL1.out, List.length_append, HK.out]; rfl
  ·have hkn : k = l.length := by omega
   subst hkn
   go_wp2_with fail
   go_ret
   refine ⟨_, rfl, ?_, hfr⟩
   rw [List.take_of_length_le (Nat.le_refl _)] at hb
   unfold lst
   rw [HL0.out, ← List.append_assoc]
   exact hb
set_option maxRecDepth 100000
set_option maxHeartbeats 4000000
theorem docP_eq (n : Nat) : docP n = (partsN n).toList := by
 match n with
 | 0 | 1 | 2 | 3 | 4 | 5 | 6 | 7 | 8 | 9 | 10 | 11 | 12 | 13 | 14 | 15 | 16 | 17 => rfl
 | m + 18 => rfl
theorem leN_len (n : Nat) (z : Int) : (leN n z).length = n := leBytes_length _ _
theorem lst_len (l : List Int) : (lst l).length = l.length + 1 := by
 unfold lst
 rw [List.length_append, leN_len]
 have : ∀ l : List Int, (l.flatMap (leN 1)).length = l.length := fun l => by
  induction l with
  | nil => rfl
  | cons a r ih => rw [List.flatMap_cons, List.length_append, ih, leN_len]; simp; omega
 rw [this]; omega
theorem docL_len (c : PI) (u : UInt8) (ha : c.args.length ≤ 255) (hr : c.rets.length ≤ 255) : (docL c u).length ≤ 256 := by
 unfold docL
 repeat' split
 all_goals first | (rw [leN_len]; omega) | (rw [lst_len]; omega)
theorem docP_len (n : Nat) : (partsN n).toList.length ≤ 3 := by
 match n with
 | 0 | 1 | 2 | 3 | 4 | 5 | 6 | 7 | 8 | 9 | 10 | 11 | 12 | 13 | 14 | 15 | 16 | 17 => decide
 | m + 18 => exact Nat.zero_le 3
theorem u64_nat (z : Int) : ∃ X : Nat, IntKind.u64.wrap z = (X : Int) ∧ X < 18446744073709551616 ∧ ∀ n, leN n z = leBytes n X := by
 have h0 : 0 ≤ IntKind.u64.wrap z ∧ IntKind.u64.wrap z < 18446744073709551616 := by
  simp only [IntKind.wrap, IntKind.signed, IntKind.bits]
  simp
  omega
 exact ⟨(IntKind.u64.wrap z).toNat, by omega, by omega, fun n => rfl⟩
theorem laid_any (v : Value) (bs : List UInt8) (B : Nat) (c : PI) (av rv : Value) (w : World) (h : Bo w B v bs) (hA : IB B w av c.args) (hR : IB B w rv c.rets) (hal : c.args.length ≤ 255) (hrl : c.rets.length ≤ 255) (hl : bs.length ≤ 9000000000000) :
 Calls Tryd.prog 25 #[v, .agg #[vI c.op, vI c.r, vI c.s, vI c.t, vI c.n, av, rv]] w fun e w' => ∃ v', e = .returned v' ∧ Bo w' B v' (bs ++ docI c) ∧ Fb B w w' := by
 obtain ⟨i5, hi5, hz5, hs5, hb5⟩ := info_parts (P := Tryd.prog) (e := 5) (z := .int .u8 0) (size := 1) (bytes := 1) (by kernel_rfl)
 obtain ⟨aa, ca, eav, -⟩ := id hA
 obtain ⟨ra, cr, erv, -⟩ := id hR
 obtain ⟨W, HW⟩ : ∃ W, W = w.alloc (.cells #[vI c.op, vI c.r, vI c.s, vI c.t, vI c.n, av, rv] 57) := ⟨_, rfl⟩
 have hf1 : Fb B w W := by rw [HW]; exact Fr.alloc (Fr.refl _ _) _
 have hx1 : W.heap[w.heap.size]? = some (.cells #[vI c.op, vI c.r, vI c.s, vI c.t, vI c.n, av, rv] 57) := by rw [HW]; exact heap_new w _
 have hb1 : Bo W B v bs := ⟨by rw [HW]; exact h.1.alloc _, Nat.le_trans h.2 hf1.size⟩
 obtain ⟨H, hH⟩ : ∃ H, H = w.heap.size := ⟨_, rfl⟩
 have HA : Hd (∀ wx, Fb B w wx → IB B wx av c.args) := fun wx f => hA.fb f
 have HR : Hd (∀ wx, Fb B w wx → IB B wx rv c.rets) := fun wx f => hR.fb f
 have HAL : Hd (c.args.length ≤ 255) := hal
 have HRL : Hd (c.rets.length ≤ 255) := hrl
 clear h hA hR hal hrl
 have x0 : W.cell? ⟨H, 0, none⟩ = some (vI c.op) := by rw [hH, cell_of hx1]; rfl
 rw [← hH] at hx1
 have HX : Hd (∀ wx, Fb B W wx → wx.heap[H]? = some (.cells #[vI c.op, vI c.r, vI c.s, vI c.t, vI c.n, av, rv] 57)) := fun wx f => f.keep hx1 (by decide)
 have HF1 : Hd (Fb B w W) := hf1
 obtain ⟨cop, hcop, hlop⟩ := u8_le c.op
 have HLO : Hd (leN 1 c.op = [cop]) := hlop
 have hcell1 : ∀ (j : Nat) (u : Value), [u8v cop][j]? = some u → (W.alloc (.cells #[u8v cop] 5)).cell? ((⟨W.heap.size, 0, none⟩ : Addr).add j) = some u := by
  intro j u hu
  rw [addr_add, World.cell?_alloc_new]
  simpa using hu
 have hkb : bs.length + 1 ≤ maxLen := by unfold maxLen; omega
 have hBw := hb1.2
 have HB : Hd (Bo W B v bs) := hb1
 clear hlop hx1 hf1
 subst eav erv
 go_enter Tryd.func25, Tryd.ntmps25
 go_upto_region 1 with fail
 rw [← HW, ← hH]
 clear HW hH
 go_upto_region 2 with ((at_builtin; refine wpList_append_own _ rfl (.tmp 7) (.tmp 11) 27 rfl B 5 i5 (.int .u8 0) 1 1 Tryd.underlying27 hi5 hz5 hs5 hb5 rfl (by omega) v bs.length _ rfl (hb1.1.alloc _) ⟨W.heap.size, 0, none⟩ 1 1 [u8v cop] rfl rfl hcell1 (by intro u hu; simp at hu; subst hu; rfl) hkb (by omega) (by simp; omega) ?_; intro v1 w2 hown2 hgrow2 hnil2))
 obtain ⟨hb2, hf2⟩ := HB.out.more _ hown2 hgrow2
 have HB2 : Hd (Bo w2 B v1 (bs ++ [cop])) := hb2
 have HF2 : Hd (Fb B W w2) := hf2
 have y0 : w2.cell? ⟨H, 0, none⟩ = some (vI c.op) := by rw [cell_of (HX.out w2 hf2)]; rfl
 clear hown2 hgrow2 hnil2 hcell1 hkb HB hb1 hb2 hf2 x0 hcop
 have hpc := rparts c.op w2
 have hB : Hd (partsB c.op = ⟨(partsN c.op.toNat).toList.toArray⟩) := rfl
 rw [hB.out] at hpc
 have HDI : Hd (docI c = [cop] ++ ((partsN c.op.toNat).toList).flatMap (docL c)) := by unfold Hd docI; rw [docP_eq, HLO.out]
 have hl3 : (partsN c.op.toNat).toList.length ≤ 3 := docP_len _
 generalize (partsN c.op.toNat).toList = l at hpc HDI hl3
 clear hB
 go_wp2_with fail
 refine hpc.mono ?_
 rintro e w3 ⟨rfl, hf3⟩
 have HF3 : Hd (Fb B W w3) := HF2.out.trans (hf3.mono (fun _ _ h => h.elim))
 have HB3 : Hd (Bo w3 B v1 (bs ++ [cop])) := HB2.out.fr hf3 (fun _ _ h => h)
 clear hpc y0 hf3 HF2 HB2
 go_wp2_with fail
 go_loopw [0, 6] (fun u i wr => ∃ (k : Nat) (cs : List UInt8), k ≤ l.length ∧ i = .int .i64 k ∧ Bo wr B u cs ∧ Hd (cs = bs ++ [cop] ++ (l.take k).flatMap (docL c)) ∧ cs.length ≤ bs.length + 1 + 256 * k ∧ Hd (Fb B W wr)) (fun _ i _ => match i with | .int _ q => l.length - q.toNat | _ => 0)
 case atStart => exact ⟨0, bs ++ [cop], Nat.zero_le _, rfl, HB3.out, by unfold Hd; simp, by simp, HF3.out⟩
 case round =>
  obtain ⟨k, cs, hk, rfl, hb, HCS, hcl, HFR⟩ := hrel
  by_cases hlt : k < l.length
  rotate_left
  ·have hkn : k = l.length := by omega
   subst hkn
   have HBB : Hd (Bo wr B u0 cs) := hb
   clear hb
   go_wp2_with fail
   go_ret
   refine ⟨_, rfl, ?_, HF1.out.trans HFR.out⟩
   have e := HCS.out
   rw [List.take_of_length_le (Nat.le_refl _)] at e
   rw [HDI.out, ← List.append_assoc, ← e]
   exact HBB.out
  have hp : k < (⟨l.toArray⟩ : ByteArray).size := by show k < l.toArray.size; simpa using hlt
  have hi : (⟨l.toArray⟩ : ByteArray)[k]'hp = l[k] := rfl
  have hxb := HX.out wr HFR.out
  have b1 : wr.cell? ⟨H, 1, none⟩ = some (vI c.r) := by rw [cell_of hxb]; rfl
  have b2 : wr.cell? ⟨H, 2, none⟩ = some (vI c.s) := by rw [cell_of hxb]; rfl
  have b3 : wr.cell? ⟨H, 3, none⟩ = some (vI c.t) := by rw [cell_of hxb]; rfl
  have b4 : wr.cell? ⟨H, 4, none⟩ = some (vI c.n) := by rw [cell_of hxb]; rfl
  have b5 : wr.cell? ⟨H, 5, none⟩ = some (.slice aa c.args.length ca) := by rw [cell_of hxb]; rfl
  have b6 : wr.cell? ⟨H, 6, none⟩ = some (.slice ra c.rets.length cr) := by rw [cell_of hxb]; rfl
  have HTK : Hd (∀ ds, docL c l[k] = ds → cs ++ ds = bs ++ [cop] ++ (l.take (k + 1)).flatMap (docL c)) := fun ds e => by
   rw [List.take_add_one, List.flatMap_append, ← List.append_assoc, ← HCS.out]
   simp [List.getElem?_eq_getElem hlt, e]
  have HDL : Hd ((docL c l[k]).length ≤ 256) := docL_len c _ HAL.out HRL.out
  have HB : Hd (Bo wr B u0 cs) := hb
  have hBw' := hb.2
  have hcl2 : cs.length ≤ 9000000001000 := by omega
  clear hxb HCS
  by_cases q82 : l[k] = 82
  ·have e82 : (((((⟨l.toArray⟩ : ByteArray)[k]'hp).toNat : Nat) : Int) == 82) = true := by rw [hi, q82]; rfl
   have hdq : Hd (docL c l[k] = leN 1 c.r) := by unfold Hd; rw [q82]; rfl
   clear q82
   obtain ⟨ck, hc1, hl1⟩ := u8_le c.r
   have HL1 : Hd (leN 1 c.r = [ck]) := hl1
   have HT : Hd (cs ++ [ck] = bs ++ [cop] ++ (l.take (k + 1)).flatMap (docL c)) := HTK.out _ (hdq.out.trans hl1)
   have hcell1 : ∀ (j : Nat) (u : Value), [u8v ck][j]? = some u → (wr.alloc (.cells #[u8v ck] 5)).cell? ((⟨wr.heap.size, 0, none⟩ : Addr).add j) = some u := by
    intro j u hu
    rw [addr_add, World.cell?_alloc_new]
    simpa using hu
   have hkb : cs.length + 1 ≤ maxLen := by unfold maxLen; omega
   clear hi hl1 HTK HDL hdq
   go_wp2_with ((at_builtin; refine wpList_append_own _ rfl (.tmp 33) (.tmp 37) 27 rfl B 5 i5 (.int .u8 0) 1 1 Tryd.underlying27 hi5 hz5 hs5 hb5 rfl (by omega) u0 cs.length _ rfl (hb.1.alloc _) ⟨wr.heap.size, 0, none⟩ 1 1 [u8v ck] rfl rfl hcell1 (by intro u hu; simp at hu; subst hu; rfl) hkb (by omega) (by simp; omega) ?_; intro v2 w7 hown7 hgrow7 hnil7))
   obtain ⟨hb7, hf7⟩ := HB.out.more _ hown7 hgrow7
   exact ⟨⟨k + 1, cs ++ [ck], by omega, by simp, hb7, HT.out, by simp; omega, HFR.out.trans hf7⟩, by simp; omega⟩
  by_cases q83 : l[k] = 83
  ·have n82 : (((((⟨l.toArray⟩ : ByteArray)[k]'hp).toNat : Nat) : Int) == 82) = false := by
    rw [hi]; simp only [beq_eq_false_iff_ne, ne_eq]; intro e; exact q82 (UInt8.toNat_inj.1 (by show _ = 82; omega))
   have e83 : (((((⟨l.toArray⟩ : ByteArray)[k]'hp).toNat : Nat) : Int) == 83) = true := by rw [hi, q83]; rfl
   have hdq : Hd (docL c l[k] = leN 1 c.s) := by unfold Hd; rw [q83]; rfl
   clear q83
   obtain ⟨ck, hc1, hl1⟩ := u8_le c.s
   have HL1 : Hd (leN 1 c.s = [ck]) := hl1
   have HT : Hd (cs ++ [ck] = bs ++ [cop] ++ (l.take (k + 1)).flatMap (docL c)) := HTK.out _ (hdq.out.trans hl1)
   have hcell1 : ∀ (j : Nat) (u : Value), [u8v ck][j]? = some u → (wr.alloc (.cells #[u8v ck] 5)).cell? ((⟨wr.heap.size, 0, none⟩ : Addr).add j) = some u := by
    intro j u hu
    rw [addr_add, World.cell?_alloc_new]
    simpa using hu
   have hkb : cs.length + 1 ≤ maxLen := by unfold maxLen; omega
   clear hi hl1 HTK HDL hdq
   go_wp2_with ((at_builtin; refine wpList_append_own _ rfl (.tmp 41) (.tmp 45) 27 rfl B 5 i5 (.int .u8 0) 1 1 Tryd.underlying27 hi5 hz5 hs5 hb5 rfl (by omega) u0 cs.length _ rfl (hb.1.alloc _) ⟨wr.heap.size, 0, none⟩ 1 1 [u8v ck] rfl rfl hcell1 (by intro u hu; simp at hu; subst hu; rfl) hkb (by omega) (by simp; omega) ?_; intro v2 w7 hown7 hgrow7 hnil7))
   obtain ⟨hb7, hf7⟩ := HB.out.more _ hown7 hgrow7
   exact ⟨⟨k + 1, cs ++ [ck], by omega, by simp, hb7, HT.out, by simp; omega, HFR.out.trans hf7⟩, by simp; omega⟩
  by_cases q84 : l[k] = 84
  ·have n82 : (((((⟨l.toArray⟩ : ByteArray)[k]'hp).toNat : Nat) : Int) == 82) = false := by
    rw [hi]; simp only [beq_eq_false_iff_ne, ne_eq]; intro e; exact q82 (UInt8.toNat_inj.1 (by show _ = 82; omega))
   have n83 : (((((⟨l.toArray⟩ : ByteArray)[k]'hp).toNat : Nat) : Int) == 83) = false := by
    rw [hi]; simp only [beq_eq_false_iff_ne, ne_eq]; intro e; exact q83 (UInt8.toNat_inj.1 (by show _ = 83; omega))
   have e84 : (((((⟨l.toArray⟩ : ByteArray)[k]'hp).toNat : Nat) : Int) == 84) = true := by rw [hi, q84]; rfl
   have hdq : Hd (docL c l[k] = leN 1 c.t) := by unfold Hd; rw [q84]; rfl
   clear q84
   obtain ⟨ck, hc1, hl1⟩ := u8_le c.t
   have HL1 : Hd (leN 1 c.t = [ck]) := hl1
   have HT : Hd (cs ++ [ck] = bs ++ [cop] ++ (l.take (k + 1)).flatMap (docL c)) := HTK.out _ (hdq.out.trans hl1)
   have hcell1 : ∀ (j : Nat) (u : Value), [u8v ck][j]? = some u → (wr.alloc (.cells #[u8v ck] 5)).cell? ((⟨wr.heap.size, 0, none⟩ : Addr).add j) = some u := by
    intro j u hu
    rw [addr_add, World.cell?_alloc_new]
    simpa using hu
   have hkb : cs.length + 1 ≤ maxLen := by unfold maxLen; omega
   clear hi hl1 HTK HDL hdq
   go_wp2_with ((at_builtin; refine wpList_append_own _ rfl (.tmp 49) (.tmp 53) 27 rfl B 5 i5 (.int .u8 0) 1 1 Tryd.underlying27 hi5 hz5 hs5 hb5 rfl (by omega) u0 cs.length _ rfl (hb.1.alloc _) ⟨wr.heap.size, 0, none⟩ 1 1 [u8v ck] rfl rfl hcell1 (by intro u hu; simp at hu; subst hu; rfl) hkb (by omega) (by simp; omega) ?_; intro v2 w7 hown7 hgrow7 hnil7))
   obtain ⟨hb7, hf7⟩ := HB.out.more _ hown7 hgrow7
   exact ⟨⟨k + 1, cs ++ [ck], by omega, by simp, hb7, HT.out, by simp; omega, HFR.out.trans hf7⟩, by simp; omega⟩
  by_cases q105 : l[k] = 105
  ·have n82 : (((((⟨l.toArray⟩ : ByteArray)[k]'hp).toNat : Nat) : Int) == 82) = false := by
    rw [hi]; simp only [beq_eq_false_iff_ne, ne_eq]; intro e; exact q82 (UInt8.toNat_inj.1 (by show _ = 82; omega))
   have n83 : (((((⟨l.toArray⟩ : ByteArray)[k]'hp).toNat : Nat) : Int) == 83) = false := by
    rw [hi]; simp only [beq_eq_false_iff_ne, ne_eq]; intro e; exact q83 (UInt8.toNat_inj.1 (by show _ = 83; omega))
   have n84 : (((((⟨l.toArray⟩ : ByteArray)[k]'hp).toNat : Nat) : Int) == 84) = false := by
    rw [hi]; simp only [beq_eq_false_iff_ne, ne_eq]; intro e; exact q84 (UInt8.toNat_inj.1 (by show _ = 84; omega))
   have e105 : (((((⟨l.toArray⟩ : ByteArray)[k]'hp).toNat : Nat) : Int) == 105) = true := by rw [hi, q105]; rfl
   have hdq : Hd (docL c l[k] = leN 8 c.n) := by unfold Hd; rw [q105]; rfl
   clear q105
   obtain ⟨X, hX, hX2, hX3⟩ := u64_nat c.n
   have HT : Hd (cs ++ leBytes 8 X = bs ++ [cop] ++ (l.take (k + 1)).flatMap (docL c)) := HTK.out _ (hdq.out.trans (hX3 8))
   have hcall := add_any u0 cs B X 8 wr hb (by omega) hX2 (by omega)
   clear hi HTK HDL hdq hX3
   go_wp2_with fail
   refine hcall.mono ?_
   rintro e w7 ⟨v7, rfl, hb7, hf7⟩
   clear hcall
   go_wp2_with fail
   exact ⟨⟨k + 1, _, by omega, by simp, hb7, HT.out, by rw [List.length_append, leBytes_length]; omega, HFR.out.trans hf7⟩, by simp; omega⟩
  by_cases q70 : l[k] = 70
  ·have n82 : (((((⟨l.toArray⟩ : ByteArray)[k]'hp).toNat : Nat) : Int) == 82) = false := by
    rw [hi]; simp only [beq_eq_false_iff_ne, ne_eq]; intro e; exact q82 (UInt8.toNat_inj.1 (by show _ = 82; omega))
   have n83 : (((((⟨l.toArray⟩ : ByteArray)[k]'hp).toNat : Nat) : Int) == 83) = false := by
    rw [hi]; simp only [beq_eq_false_iff_ne, ne_eq]; intro e; exact q83 (UInt8.toNat_inj.1 (by show _ = 83; omega))
   have n84 : (((((⟨l.toArray⟩ : ByteArray)[k]'hp).toNat : Nat) : Int) == 84) = false := by
    rw [hi]; simp only [beq_eq_false_iff_ne, ne_eq]; intro e; exact q84 (UInt8.toNat_inj.1 (by show _ = 84; omega))
   have n105 : (((((⟨l.toArray⟩ : ByteArray)[k]'hp).toNat : Nat) : Int) == 105) = false := by
    rw [hi]; simp only [beq_eq_false_iff_ne, ne_eq]; intro e; exact q105 (UInt8.toNat_inj.1 (by show _ = 105; omega))
   have e70 : (((((⟨l.toArray⟩ : ByteArray)[k]'hp).toNat : Nat) : Int) == 70) = true := by rw [hi, q70]; rfl
   have hdq : Hd (docL c l[k] = leN 2 c.n) := by unfold Hd; rw [q70]; rfl
   clear q70
   obtain ⟨X, hX, hX2, hX3⟩ := u64_nat c.n
   have HT : Hd (cs ++ leBytes 2 X = bs ++ [cop] ++ (l.take (k + 1)).flatMap (docL c)) := HTK.out _ (hdq.out.trans (hX3 2))
   have hcall := add_any u0 cs B X 2 wr hb (by omega) hX2 (by omega)
   clear hi HTK HDL hdq hX3
   go_wp2_with fail
   refine hcall.mono ?_
   rintro e w7 ⟨v7, rfl, hb7, hf7⟩
   clear hcall
   go_wp2_with fail
   exact ⟨⟨k + 1, _, by omega, by simp, hb7, HT.out, by rw [List.length_append, leBytes_length]; omega, HFR.out.trans hf7⟩, by simp; omega⟩
  by_cases q74 : l[k] = 74
  ·have n82 : (((((⟨l.toArray⟩ : ByteArray)[k]'hp).toNat : Nat) : Int) == 82) = false := by
    rw [hi]; simp only [beq_eq_false_iff_ne, ne_eq]; intro e; exact q82 (UInt8.toNat_inj.1 (by show _ = 82; omega))
   have n83 : (((((⟨l.toArray⟩ : ByteArray)[k]'hp).toNat : Nat) : Int) == 83) = false := by
    rw [hi]; simp only [beq_eq_false_iff_ne, ne_eq]; intro e; exact q83 (UInt8.toNat_inj.1 (by show _ = 83; omega))
   have n84 : (((((⟨l.toArray⟩ : ByteArray)[k]'hp).toNat : Nat) : Int) == 84) = false := by
    rw [hi]; simp only [beq_eq_false_iff_ne, ne_eq]; intro e; exact q84 (UInt8.toNat_inj.1 (by show _ = 84; omega))
   have n105 : (((((⟨l.toArray⟩ : ByteArray)[k]'hp).toNat : Nat) : Int) == 105) = false := by
    rw [hi]; simp only [beq_eq_false_iff_ne, ne_eq]; intro e; exact q105 (UInt8.toNat_inj.1 (by show _ = 105; omega))
   have n70 : (((((⟨l.toArray⟩ : ByteArray)[k]'hp).toNat : Nat) : Int) == 70) = false := by
    rw [hi]; simp only [beq_eq_false_iff_ne, ne_eq]; intro e; exact q70 (UInt8.toNat_inj.1 (by show _ = 70; omega))
   have e74 : (((((⟨l.toArray⟩ : ByteArray)[k]'hp).toNat : Nat) : Int) == 74) = true := by rw [hi, q74]; rfl
   have hdq : Hd (docL c l[k] = leN 2 c.n) := by unfold Hd; rw [q74]; rfl
   clear q74
   obtain ⟨X, hX, hX2, hX3⟩ := u64_nat c.n
   have HT : Hd (cs ++ leBytes 2 X = bs ++ [cop] ++ (l.take (k + 1)).flatMap (docL c)) := HTK.out _ (hdq.out.trans (hX3 2))
   have hcall := add_any u0 cs B X 2 wr hb (by omega) hX2 (by omega)
   clear hi HTK HDL hdq hX3
   go_wp2_with fail
   refine hcall.mono ?_
   rintro e w7 ⟨v7, rfl, hb7, hf7⟩
   clear hcall
   go_wp2_with fail
   exact ⟨⟨k + 1, _, by omega, by simp, hb7, HT.out, by rw [List.length_append, leBytes_length]; omega, HFR.out.trans hf7⟩, by simp; omega⟩
  by_cases q65 : l[k] = 65
  ·have n82 : (((((⟨l.toArray⟩ : ByteArray)[k]'hp).toNat : Nat) : Int) == 82) = false := by
    rw [hi]; simp only [beq_eq_false_iff_ne, ne_eq]; intro e; exact q82 (UInt8.toNat_inj.1 (by show _ = 82; omega))
   have n83 : (((((⟨l.toArray⟩ : ByteArray)[k]'hp).toNat : Nat) : Int) == 83) = false := by
    rw [hi]; simp only [beq_eq_false_iff_ne, ne_eq]; intro e; exact q83 (UInt8.toNat_inj.1 (by show _ = 83; omega))
   have n84 : (((((⟨l.toArray⟩ : ByteArray)[k]'hp).toNat : Nat) : Int) == 84) = false := by
    rw [hi]; simp only [beq_eq_false_iff_ne, ne_eq]; intro e; exact q84 (UInt8.toNat_inj.1 (by show _ = 84; omega))
   have n105 : (((((⟨l.toArray⟩ : ByteArray)[k]'hp).toNat : Nat) : Int) == 105) = false := by
    rw [hi]; simp only [beq_eq_false_iff_ne, ne_eq]; intro e; exact q105 (UInt8.toNat_inj.1 (by show _ = 105; omega))
   have n70 : (((((⟨l.toArray⟩ : ByteArray)[k]'hp).toNat : Nat) : Int) == 70) = false := by
    rw [hi]; simp only [beq_eq_false_iff_ne, ne_eq]; intro e; exact q70 (UInt8.toNat_inj.1 (by show _ = 70; omega))
   have n74 : (((((⟨l.toArray⟩ : ByteArray)[k]'hp).toNat : Nat) : Int) == 74) = false := by
    rw [hi]; simp only [beq_eq_false_iff_ne, ne_eq]; intro e; exact q74 (UInt8.toNat_inj.1 (by show _ = 74; omega))
   have e65 : (((((⟨l.toArray⟩ : ByteArray)[k]'hp).toNat : Nat) : Int) == 65) = true := by rw [hi, q65]; rfl
   have hdq : Hd (docL c l[k] = lst c.args) := by unfold Hd; rw [q65]; rfl
   clear q65
   have HT : Hd (cs ++ lst c.args = bs ++ [cop] ++ (l.take (k + 1)).flatMap (docL c)) := HTK.out _ hdq.out
   have hcall := blist_any u0 (.slice aa c.args.length ca) cs c.args B wr hb (HA.out wr (HF1.out.trans HFR.out)) (by omega) HAL.out
   have hln := lst_len c.args
   have hl255 := HAL.out
   clear hi HTK HDL hdq
   go_wp2_with fail
   refine hcall.mono ?_
   rintro e w7 ⟨v7, rfl, hb7, hf7⟩
   clear hcall
   go_wp2_with fail
   exact ⟨⟨k + 1, _, by omega, by simp, hb7, HT.out, by rw [List.length_append, hln]; omega, HFR.out.trans hf7⟩, by simp; omega⟩
  by_cases q86 : l[k] = 86
  ·have n82 : (((((⟨l.toArray⟩ : ByteArray)[k]'hp).toNat : Nat) : Int) == 82) = false := by
    rw [hi]; simp only [beq_eq_false_iff_ne, ne_eq]; intro e; exact q82 (UInt8.toNat_inj.1 (by show _ = 82; omega))
   have n83 : (((((⟨l.toArray⟩ : ByteArray)[k]'hp).toNat : Nat) : Int) == 83) = false := by
    rw [hi]; simp only [beq_eq_false_iff_ne, ne_eq]; intro e; exact q83 (UInt8.toNat_inj.1 (by show _ = 83; omega))
   have n84 : (((((⟨l.toArray⟩ : ByteArray)[k]'hp).toNat : Nat) : Int) == 84) = false := by
    rw [hi]; simp only [beq_eq_false_iff_ne, ne_eq]; intro e; exact q84 (UInt8.toNat_inj.1 (by show _ = 84; omega))
   have n105 : (((((⟨l.toArray⟩ : ByteArray)[k]'hp).toNat : Nat) : Int) == 105) = false := by
    rw [hi]; simp only [beq_eq_false_iff_ne, ne_eq]; intro e; exact q105 (UInt8.toNat_inj.1 (by show _ = 105; omega))
   have n70 : (((((⟨l.toArray⟩ : ByteArray)[k]'hp).toNat : Nat) : Int) == 70) = false := by
    rw [hi]; simp only [beq_eq_false_iff_ne, ne_eq]; intro e; exact q70 (UInt8.toNat_inj.1 (by show _ = 70; omega))
   have n74 : (((((⟨l.toArray⟩ : ByteArray)[k]'hp).toNat : Nat) : Int) == 74) = false := by
    rw [hi]; simp only [beq_eq_false_iff_ne, ne_eq]; intro e; exact q74 (UInt8.toNat_inj.1 (by show _ = 74; omega))
   have n65 : (((((⟨l.toArray⟩ : ByteArray)[k]'hp).toNat : Nat) : Int) == 65) = false := by
    rw [hi]; simp only [beq_eq_false_iff_ne, ne_eq]; intro e; exact q65 (UInt8.toNat_inj.1 (by show _ = 65; omega))
   have e86 : (((((⟨l.toArray⟩ : ByteArray)[k]'hp).toNat : Nat) : Int) == 86) = true := by rw [hi, q86]; rfl
   have hdq : Hd (docL c l[k] = lst c.args) := by unfold Hd; rw [q86]; rfl
   clear q86
   have HT : Hd (cs ++ lst c.args = bs ++ [cop] ++ (l.take (k + 1)).flatMap (docL c)) := HTK.out _ hdq.out
   have hcall := blist_any u0 (.slice aa c.args.length ca) cs c.args B wr hb (HA.out wr (HF1.out.trans HFR.out)) (by omega) HAL.out
   have hln := lst_len c.args
   have hl255 := HAL.out
   clear hi HTK HDL hdq
   go_wp2_with fail
   refine hcall.mono ?_
   rintro e w7 ⟨v7, rfl, hb7, hf7⟩
   clear hcall
   go_wp2_with fail
   exact ⟨⟨k + 1, _, by omega, by simp, hb7, HT.out, by rw [List.length_append, hln]; omega, HFR.out.trans hf7⟩, by simp; omega⟩
  by_cases q66 : l[k] = 66
  ·have n82 : (((((⟨l.toArray⟩ : ByteArray)[k]'hp).toNat : Nat) : Int) == 82) = false := by
    rw [hi]; simp only [beq_eq_false_iff_ne, ne_eq]; intro e; exact q82 (UInt8.toNat_inj.1 (by show _ = 82; omega))
   have n83 : (((((⟨l.toArray⟩ : ByteArray)[k]'hp).toNat : Nat) : Int) == 83) = false := by
    rw [hi]; simp only [beq_eq_false_iff_ne, ne_eq]; intro e; exact q83 (UInt8.toNat_inj.1 (by show _ = 83; omega))
   have n84 : (((((⟨l.toArray⟩ : ByteArray)[k]'hp).toNat : Nat) : Int) == 84) = false := by
    rw [hi]; simp only [beq_eq_false_iff_ne, ne_eq]; intro e; exact q84 (UInt8.toNat_inj.1 (by show _ = 84; omega))
   have n105 : (((((⟨l.toArray⟩ : ByteArray)[k]'hp).toNat : Nat) : Int) == 105) = false := by
    rw [hi]; simp only [beq_eq_false_iff_ne, ne_eq]; intro e; exact q105 (UInt8.toNat_inj.1 (by show _ = 105; omega))
   have n70 : (((((⟨l.toArray⟩ : ByteArray)[k]'hp).toNat : Nat) : Int) == 70) = false := by
    rw [hi]; simp only [beq_eq_false_iff_ne, ne_eq]; intro e; exact q70 (UInt8.toNat_inj.1 (by show _ = 70; omega))
   have n74 : (((((⟨l.toArray⟩ : ByteArray)[k]'hp).toNat : Nat) : Int) == 74) = false := by
    rw [hi]; simp only [beq_eq_false_iff_ne, ne_eq]; intro e; exact q74 (UInt8.toNat_inj.1 (by show _ = 74; omega))
   have n65 : (((((⟨l.toArray⟩ : ByteArray)[k]'hp).toNat : Nat) : Int) == 65) = false := by
    rw [hi]; simp only [beq_eq_false_iff_ne, ne_eq]; intro e; exact q65 (UInt8.toNat_inj.1 (by show _ = 65; omega))
   have n86 : (((((⟨l.toArray⟩ : ByteArray)[k]'hp).toNat : Nat) : Int) == 86) = false := by
    rw [hi]; simp only [beq_eq_false_iff_ne, ne_eq]; intro e; exact q86 (UInt8.toNat_inj.1 (by show _ = 86; omega))
   have e66 : (((((⟨l.toArray⟩ : ByteArray)[k]'hp).toNat : Nat) : Int) == 66) = true := by rw [hi, q66]; rfl
   have hdq : Hd (docL c l[k] = lst c.rets) := by unfold Hd; rw [q66]; rfl
   clear q66
   have HT : Hd (cs ++ lst c.rets = bs ++ [cop] ++ (l.take (k + 1)).flatMap (docL c)) := HTK.out _ hdq.out
   have hcall := blist_any u0 (.slice ra c.rets.length cr) cs c.rets B wr hb (HR.out wr (HF1.out.trans HFR.out)) (by omega) HRL.out
   have hln := lst_len c.rets
   have hl255 := HRL.out
   clear hi HTK HDL hdq
   go_wp2_with fail
   refine hcall.mono ?_
   rintro e w7 ⟨v7, rfl, hb7, hf7⟩
   clear hcall
   go_wp2_with fail
   exact ⟨⟨k + 1, _, by omega, by simp, hb7, HT.out, by rw [List.length_append, hln]; omega, HFR.out.trans hf7⟩, by simp; omega⟩
  have n82 : (((((⟨l.toArray⟩ : ByteArray)[k]'hp).toNat : Nat) : Int) == 82) = false := by
   rw [hi]; simp only [beq_eq_false_iff_ne, ne_eq]; intro e; exact q82 (UInt8.toNat_inj.1 (by show _ = 82; omega))
  have n83 : (((((⟨l.toArray⟩ : ByteArray)[k]'hp).toNat : Nat) : Int) == 83) = false := by
   rw [hi]; simp only [beq_eq_false_iff_ne, ne_eq]; intro e; exact q83 (UInt8.toNat_inj.1 (by show _ = 83; omega))
  have n84 : (((((⟨l.toArray⟩ : ByteArray)[k]'hp).toNat : Nat) : Int) == 84) = false := by
   rw [hi]; simp only [beq_eq_false_iff_ne, ne_eq]; intro e; exact q84 (UInt8.toNat_inj.1 (by show _ = 84; omega))
  have n105 : (((((⟨l.toArray⟩ : ByteArray)[k]'hp).toNat : Nat) : Int) == 105) = false := by
   rw [hi]; simp only [beq_eq_false_iff_ne, ne_eq]; intro e; exact q105 (UInt8.toNat_inj.1 (by show _ = 105; omega))
  have n70 : (((((⟨l.toArray⟩ : ByteArray)[k]'hp).toNat : Nat) : Int) == 70) = false := by
   rw [hi]; simp only [beq_eq_false_iff_ne, ne_eq]; intro e; exact q70 (UInt8.toNat_inj.1 (by show _ = 70; omega))
  have n74 : (((((⟨l.toArray⟩ : ByteArray)[k]'hp).toNat : Nat) : Int) == 74) = false := by
   rw [hi]; simp only [beq_eq_false_iff_ne, ne_eq]; intro e; exact q74 (UInt8.toNat_inj.1 (by show _ = 74; omega))
  have n65 : (((((⟨l.toArray⟩ : ByteArray)[k]'hp).toNat : Nat) : Int) == 65) = false := by
   rw [hi]; simp only [beq_eq_false_iff_ne, ne_eq]; intro e; exact q65 (UInt8.toNat_inj.1 (by show _ = 65; omega))
  have n86 : (((((⟨l.toArray⟩ : ByteArray)[k]'hp).toNat : Nat) : Int) == 86) = false := by
   rw [hi]; simp only [beq_eq_false_iff_ne, ne_eq]; intro e; exact q86 (UInt8.toNat_inj.1 (by show _ = 86; omega))
  have n66 : (((((⟨l.toArray⟩ : ByteArray)[k]'hp).toNat : Nat) : Int) == 66) = false := by
   rw [hi]; simp only [beq_eq_false_iff_ne, ne_eq]; intro e; exact q66 (UInt8.toNat_inj.1 (by show _ = 66; omega))
  have hdq : Hd (docL c l[k] = leN 1 c.n) := by
   unfold Hd docL
   simp only [q82, q83, q84, q105, q70, q74, q65, q86, q66, if_false, or_self]
  obtain ⟨ck, hc1, hl1⟩ := u8_le c.n
  have HL1 : Hd (leN 1 c.n = [ck]) := hl1
  have HT : Hd (cs ++ [ck] = bs ++ [cop] ++ (l.take (k + 1)).flatMap (docL c)) := HTK.out _ (hdq.out.trans hl1)
  have hcell1 : ∀ (j : Nat) (u : Value), [u8v ck][j]? = some u → (wr.alloc (.cells #[u8v ck] 5)).cell? ((⟨wr.heap.size, 0, none⟩ : Addr).add j) = some u := by
   intro j u hu
   rw [addr_add, World.cell?_alloc_new]
   simpa using hu
  have hkb : cs.length + 1 ≤ maxLen := by unfold maxLen; omega
  clear hi hl1 HTK HDL hdq
  go_wp2_with ((at_builtin; refine wpList_append_own _ rfl (.tmp 25) (.tmp 29) 27 rfl B 5 i5 (.int .u8 0) 1 1 Tryd.underlying27 hi5 hz5 hs5 hb5 rfl (by omega) u0 cs.length _ rfl (hb.1.alloc _) ⟨wr.heap.size, 0, none⟩ 1 1 [u8v ck] rfl rfl hcell1 (by intro u hu; simp at hu; subst hu; rfl) hkb (by omega) (by simp; omega) ?_; intro v2 w7 hown7 hgrow7 hnil7))
  obtain ⟨hb7, hf7⟩ := HB.out.more _ hown7 hgrow7
  exact ⟨⟨k + 1, cs ++ [ck], by omega, by simp, hb7, HT.out, by simp; omega, HFR.out.trans hf7⟩, by simp; omega⟩
theorem roomD : RoomOk 100000000000 := ⟨by omega, by omega⟩
theorem flatB_len {α : Type} (f : α → List UInt8) (m : Nat) : ∀ (l : List α), (∀ x ∈ l, (f x).length ≤ m) → (l.flatMap f).length ≤ l.length * m
 | [], _ => by simp
 | a :: r, h => by
   have ih := flatB_len f m r (fun x hx => h x (by simp [hx]))
   have ha := h a (by simp)
   rw [List.flatMap_cons, List.length_append, List.length_cons, Nat.add_mul]
   omega
theorem docI_len (c : PI) (ha : c.args.length ≤ 255) (hr : c.rets.length ≤ 255) : (docI c).length ≤ 769 := by
 unfold docI
 rw [List.length_append, leN_len, docP_eq]
 have h1 := flatB_len (docL c) 256 (partsN c.op.toNat).toList (fun x _ => docL_len c x ha hr)
 have h2 := docP_len c.op.toNat
 have : (partsN c.op.toNat).toList.length * 256 ≤ 3 * 256 := Nat.mul_le_mul_right _ h2
 omega
def Small (fs : List PF) : Prop := fs.length ≤ 65535 ∧ ∀ f ∈ fs, f.code.length ≤ 4096 ∧ ∀ c ∈ f.code, c.args.length ≤ 255 ∧ c.rets.length ≤ 255
theorem instr_lens {b wb g0 K : Nat} {heads : List (Nat × Nat)} {fR i : Nat} {la lr : List Int} {x y : WS × (Nat × List UInt8)} (hx : Pos x) (hfR : fR ≤ 4) (hhd : ∀ k : Nat, (heads.getD k (0, 0)).1 ≤ 8 ∧ (heads.getD k (0, 0)).2 ≤ 4) (h : instrK (writing b wb g0 K) heads fR i la lr x = .ok y) : la.length ≤ 255 ∧ lr.length ≤ 255 := by
 obtain ⟨x1, h1, h⟩ := then_ok h
 have w1 := (wr_next (b := b) (o := 154) (by simp [places]) (by omega) hx h1).2
 split at h
 ·rename_i hop
  split at h
  ·rename_i h15
   obtain ⟨x2, h2, h⟩ := then_ok h
   obtain ⟨hnb, w2, -⟩ := front_sm (b := b) (bs := []) (br := 0) (rv := nilS) (F := []) (p' := 0) _ _ w1.pos h2
   have hl := (list_wr w2.pos h).2
   obtain ⟨-, hlr, -⟩ := nb_zero (by omega) (by omega) hnb
   have := hlr (by omega)
   omega
  ·split at h
   ·obtain ⟨x3, h3, h⟩ := then_ok h
    obtain ⟨x2, h2, h3⟩ := then_ok h3
    obtain ⟨-, w2, -⟩ := front_sm (b := b) (bs := []) (br := 0) (rv := nilS) (F := []) (p' := 0) _ _ w1.pos h2
    have w3 := (wr_next (b := b) (o := 158) (by simp [places]) (by omega) w2.pos (ask_next h3).1).2
    obtain ⟨x4, h4, h5⟩ := then_ok h
    obtain ⟨w4, l4⟩ := list_wr w3.pos h4
    obtain ⟨-, l5⟩ := list_wr w4.pos h5
    have := hhd x3.1.n.toNat
    omega
   ·rename_i n15 n11
    have hfr : ∃ z, frontOk (writing b wb g0 K) (x.1.op == 13) (x.1.op == 6) (nbK x.1.op.toNat x.1 la.length lr.length) i x.1.at' x1 = .ok z := by
     cases hz : frontOk (writing b wb g0 K) (x.1.op == 13) (x.1.op == 6) (nbK x.1.op.toNat x.1 la.length lr.length) i x.1.at' x1 with
     | ok z => exact ⟨z, rfl⟩
     | error z =>
       rw [hz] at h
       have : ∀ k : Nat, partsX (writing b wb g0 K) k (.error z : X (WS × (Nat × List UInt8))) = .error z := by
        intro k
        match k with
        | 0 | 1 | 2 | 3 | 4 | 5 | 6 | 7 | 8 | 9 | 10 | 11 | 12 | 13 | 14 | 15 | 16 | 17 => rfl
        | m + 18 => rfl
       exact absurd ((this x.1.op.toNat).symm.trans h) (fun e => by cases e)
    obtain ⟨z, hz⟩ := hfr
    obtain ⟨hnb, -⟩ := front_sm (b := b) (bs := []) (br := 0) (rv := nilS) (F := []) (p' := 0) _ _ w1.pos hz
    obtain ⟨-, hlr, hla⟩ := nb_zero (by omega) (by omega) hnb
    have := hlr (by omega)
    have := hla (by omega) (by omega)
    omega
 ·cases h
theorem code_lens {b wb g0 K : Nat} {heads : List (Nat × Nat)} {fR : Nat} (hH : heads.length ≤ 65535) (hfR : fR ≤ 4) (hhd : ∀ k : Nat, (heads.getD k (0, 0)).1 ≤ 8 ∧ (heads.getD k (0, 0)).2 ≤ 4) : ∀ {l : List PI} {i : Nat} {x y : WS × (Nat × List UInt8)}, Pos x → codeK (writing b wb g0 K) heads fR i l x = .ok y → ∀ c ∈ l, c.args.length ≤ 255 ∧ c.rets.length ≤ 255
 | [], _, _, _, _, _ => by simp
 | c :: r, i, x, y, hx, h => by
   obtain ⟨z, h1, h2⟩ := then_ok h
   have w := instr_wr (x := (inI c x.1, x.2)) hx hH h1
   have hc := instr_lens (x := (inI c x.1, x.2)) hx hfR hhd h1
   intro c' hm
   rcases List.mem_cons.1 hm with rfl | hm
   ·exact hc
   ·exact code_lens hH hfR hhd w.pos h2 c' hm
theorem funcs_lens {b wb g0 K : Nat} {heads : List (Nat × Nat)} (hH : heads.length ≤ 65535) (hhd : ∀ k : Nat, (heads.getD k (0, 0)).1 ≤ 8 ∧ (heads.getD k (0, 0)).2 ≤ 4) : ∀ {fs : List PF} {x y : WS × (Nat × List UInt8)}, Pos x → (∀ f ∈ fs, HeadF f) → funcsK (writing b wb g0 K) heads fs x = .ok y → ∀ f ∈ fs, ∀ c ∈ f.code, c.args.length ≤ 255 ∧ c.rets.length ≤ 255
 | [], _, _, _, _, _ => by simp
 | f :: r, x, y, hx, hF, h => by
   obtain ⟨z, h1, h2⟩ := then_ok h
   have w := code_wr (b := b) (x := (inF f x.1, x.2)) hH hx h1
   have hf := hF f (by simp)
   have hc := code_lens (x := (inF f x.1, x.2)) hH (by have := hf.2.2.1; omega) hhd hx h1
   intro f' hm
   rcases List.mem_cons.1 hm with rfl | hm
   ·exact hc
   ·exact funcs_lens hH hhd w.pos (fun f' h' => hF f' (by simp [h'])) h2 f' hm
theorem over_small {b wb g0 K room : Nat} {G : Int} {fs : List PF} {vw : Value} {y : WS × (Nat × List UInt8)} (hroom : 6 + 8 * room ≤ 1000000000000) (h : overK (writing b wb g0 K) G fs (WS.start vw, ((room, magicL) : Nat × List UInt8)) = .ok y) : Small fs := by
 obtain ⟨x1, h1, h⟩ := then_ok h
 obtain ⟨x2, h2, h⟩ := then_ok h
 obtain ⟨x3, h3, h4⟩ := then_ok h
 have p0 : Pos (({ WS.start vw with globals := G, count := (fs.length : Nat) } : WS), ((room, magicL) : Nat × List UInt8)) := ⟨rfl, hroom⟩
 obtain ⟨n1, -⟩ := ask_next h1
 have w1 := wr_next (b := b) (o := 146) (by simp [places]) (by omega) p0 n1
 obtain ⟨n2, c2⟩ := ask_next h2
 have w2 := wr_next (b := b) (o := 161) (by simp [places]) (by omega) w1.2.pos n2
 have k1 : x1.1.count = (fs.length : Nat) := by rw [w1.1]
 have k2 : x2.1.count = (fs.length : Nat) := by rw [w2.1]; exact k1
 have hn : fs.length ≤ 65535 := by
  have := of_decide_eq_true c2
  rw [k2] at this
  omega
 obtain ⟨w3, hF, -⟩ := heads_sm (b := b) (bs := []) (br := 0) (rv := nilS) w2.2.pos h3
 have hlh : (headsOfP fs).length = fs.length := by simp [headsOfP]
 have hhd : ∀ k : Nat, ((headsOfP fs).getD k (0, 0)).1 ≤ 8 ∧ ((headsOfP fs).getD k (0, 0)).2 ≤ 4 := fun k => by
  unfold headsOfP
  rw [List.getD_eq_getElem?_getD, List.getElem?_map]
  cases hk : fs[k]? with
  | none => simp
  | some q =>
    have := hF q (List.mem_of_getElem? hk)
    simp only [Option.map_some, Option.getD_some]
    have h2 := this.2.1
    have h3 := this.2.2.1
    omega
 exact ⟨hn, fun f hf => ⟨(hF f hf).2.2.2.2, funcs_lens (by omega) hhd w3.pos hF h4 f hf⟩⟩
theorem right_small {G : Int} {fs : List PF} (h : checkP G fs = 0) : Small fs := by
 have hck := enc_check (n := 0) roomD G fs
 cases hx : encK 0 100000000000 G fs with
 | error z => rw [hx] at hck; exact absurd (hck.1.symm.trans h) hck.2
 | ok y => exact over_small (b := 0 + 4) (wb := 0 + 2) (g0 := 0 + 1) (K := 0 + 8) roomD.2 hx
theorem leN_nat (n m : Nat) (h : m < 18446744073709551616) : leN n (m : Int) = leBytes n m := by
 unfold leN
 have : IntKind.u64.wrap (m : Int) = m := by
  simp only [IntKind.wrap, IntKind.signed, IntKind.bits]
  simp
  omega
 rw [this]
 rfl
theorem Fb.none {B : Nat} {w w' : World} (h : Fb B w w') (hB : w.heap.size ≤ B) : Fr (fun _ => False) w w' := h.mono (fun k hk e => by have := e.1; omega)
set_option maxRecDepth 100000
set_option maxHeartbeats 4000000
def DocE (w : World) (G : Int) (fs : List PF) (zE : Int) (e : Ending) (w' : World) : Prop :=
 Fr (fun _ => False) w w' ∧ (zE = 0 → ∃ v', e = .returned (.tuple #[v', vI 0]) ∧ Bo w' w.heap.size v' (docAll G fs)) ∧ (zE ≠ 0 → e = .returned (.tuple #[.slice none 0 0, vI zE]))
theorem rencode_any (w : World) (G : Int) (fs : List PF) (fv : Value) (h : FA w fv fs) (zE : Int) (hsm : zE = 0 → Small fs)
 (hck : ∀ wx, Fr (fun _ => False) w wx → Calls Tryd.prog 23 #[.agg #[vI G, fv]] wx fun e w' => e = .returned (vI zE) ∧ Fr (fun _ => False) wx w') :
 Calls Tryd.prog 7 #[.agg #[vI G, fv]] w (DocE w G fs zE) := by
 obtain ⟨i5, hi5, hz5, hs5, hb5⟩ := info_parts (P := Tryd.prog) (e := 5) (z := .int .u8 0) (size := 1) (bytes := 1) (by kernel_rfl)
 obtain ⟨fa, fc, efv, -⟩ := id h
 obtain ⟨W, HW⟩ : ∃ W, W = w.alloc (.cells #[vI G, fv] 24) := ⟨_, rfl⟩
 have hfW : Fr (fun _ => False) w W := by rw [HW]; exact Fr.alloc (Fr.refl _ _) _
 have hx1 : W.heap[w.heap.size]? = some (.cells #[vI G, fv] 24) := by rw [HW]; exact heap_new w _
 obtain ⟨B, hB⟩ : ∃ B, B = w.heap.size := ⟨_, rfl⟩
 have HBw : Hd (B = w.heap.size) := hB
 rw [← hB] at hx1
 have x0 : W.cell? ⟨B, 0, none⟩ = some (vI G) := by rw [cell_of hx1]; rfl
 have x1 : W.cell? ⟨B, 1, none⟩ = some fv := by rw [cell_of hx1]; rfl
 have hcW := hck W hfW
 have HFA : Hd (FA w fv fs) := h
 have HSM : Hd (zE = 0 → Small fs) := hsm
 have HFW : Hd (Fr (fun _ => False) w W) := hfW
 have HX1 : Hd (W.heap[B]? = some (.cells #[vI G, fv] 24)) := hx1
 clear h hsm hck hfW hx1
 subst efv
 go_enter Tryd.func7, Tryd.ntmps7
 go_upto_region 1 with fail
 rw [← HW, ← hB]
 clear HW hB
 go_wp2_with fail
 refine hcW.mono ?_
 rintro e w1 ⟨rfl, f1⟩
 have HF1 : Hd (Fr (fun _ => False) W w1) := f1
 clear hcW x0 x1 f1
 by_cases hz : zE = 0
 rotate_left
 ·have hz1 : (zE == 0) = false := by simpa using hz
  have hz2 : (zE != 0) = true := by simpa using hz
  go_wp2_with fail
  go_ret2
  exact ⟨HFW.out.trans HF1.out, fun e => absurd e hz, fun _ => rfl⟩
 subst hz
 obtain ⟨hnf, hcode⟩ := HSM.out rfl
 have HCODE : Hd _ := hcode
 have HX : Hd (∀ wx, Fb B w1 wx → wx.heap[B]? = some (.cells #[vI G, .slice fa fs.length fc] 24)) := fun wx f => f.keep ((HF1.out.block B (heap_lt HX1.out) (fun h => h)).trans HX1.out) (by decide)
 have HBW : Hd (∀ wx, Fb B w1 wx → Fr (fun _ => False) w wx) := fun wx f => (HFW.out.trans HF1.out).then f (fun j hj e => by have := e.1; have := HBw.out; omega)
 have hB1 : B ≤ w1.heap.size := by rw [HBw.out]; exact (HFW.out.trans HF1.out).size
 obtain ⟨cG, hcG, hlG⟩ := u8_le G
 have HLG : Hd (leN 1 G = [cG]) := hlG
 have hx := HX.out w1 (Fb.refl _ _)
 have y0 : w1.cell? ⟨B, 0, none⟩ = some (vI G) := by rw [cell_of hx]; rfl
 have y1 : w1.cell? ⟨B, 1, none⟩ = some (.slice fa fs.length fc) := by rw [cell_of hx]; rfl
 clear hcode hx hlG HSM HFW HX1 HF1
 go_upto_region 5 with fail
 obtain ⟨w2, hw2⟩ : ∃ w2, w2 = w1.alloc (.cells #[.int .u8 102, .int .u8 117, .int .u8 103, .int .u8 117, .int .u8 101, .int .u8 1, .int .u8 (cG.toNat : Nat)] 5) := ⟨_, rfl⟩
 rw [← hw2]
 have hb2 : Bo w2 B (.slice (some ⟨w1.heap.size, 0, none⟩) 7 7) (magicL ++ [cG]) := by
  refine ⟨⟨rfl, Or.inr ⟨w1.heap.size, 7, #[.int .u8 102, .int .u8 117, .int .u8 103, .int .u8 117, .int .u8 101, .int .u8 1, .int .u8 (cG.toNat : Nat)], rfl, hB1, by rw [hw2]; exact heap_new w1 _, Nat.le_refl _, by unfold maxLen; omega, rfl, rfl⟩⟩, ?_⟩
  rw [hw2]; simp; omega
 have hf2 : Fb B w1 w2 := by rw [hw2]; exact Fr.alloc (Fr.refl _ _) _
 have hcall := add_any _ (magicL ++ [cG]) B fs.length 2 w2 hb2 (by simp [magicL]) (by omega) (by omega)
 have z1 : w2.cell? ⟨B, 1, none⟩ = some (.slice fa fs.length fc) := by rw [cell_of (HX.out w2 hf2)]; rfl
 have hu : IntKind.u64.wrap (fs.length : Int) = fs.length := by
  simp only [IntKind.wrap, IntKind.signed, IntKind.bits]
  simp
  omega
 have HF2 : Hd (Fb B w1 w2) := hf2
 clear hb2 hf2 hw2 y0 y1 hcG
 go_wp2_with fail
 refine hcall.mono ?_
 rintro e w3 ⟨v3, rfl, hb3, hf3⟩
 have HP : Hd (∃ pre : List UInt8, pre = magicL ++ leN 1 G ++ leN 2 (fs.length : Nat) ∧ magicL ++ [cG] ++ leBytes 2 fs.length = pre) := ⟨_, rfl, by rw [HLG.out, leN_nat _ _ (by omega)]⟩
 obtain ⟨pre, hpre, hpe⟩ := HP.out
 have HPRE : Hd (pre = magicL ++ leN 1 G ++ leN 2 (fs.length : Nat)) := hpre
 have HPL : Hd (pre.length = 9) := by
  unfold Hd
  rw [hpre, List.length_append, List.length_append, leN_len, leN_len]; rfl
 rw [hpe] at hb3
 have HB3 : Hd (Bo w3 B v3 pre) := hb3
 have HF3 : Hd (Fb B w1 w3) := HF2.out.trans hf3
 clear hcall z1 hb3 hf3 HF2 hpre hpe HP hu
 go_wp2_with fail
 go_loopw [5, 6] (fun u i wr => ∃ (k : Nat) (cs : List UInt8), k ≤ fs.length ∧ i = .int .i64 k ∧ Bo wr B u cs ∧ Hd (cs = pre ++ (fs.take k).flatMap docH) ∧ cs.length = 9 + 5 * k ∧ Hd (Fb B w1 wr)) (fun _ i _ => match i with | .int _ q => fs.length - q.toNat | _ => 0)
 case atStart => exact ⟨0, pre, Nat.zero_le _, rfl, HB3.out, by unfold Hd; simp, HPL.out, HF3.out⟩
 case round =>
  obtain ⟨k, cs, hk, rfl, hb, HCS, hcl, HFR⟩ := hrel
  have q1 : wr.cell? ⟨B, 1, none⟩ = some (.slice fa fs.length fc) := by rw [cell_of (HX.out wr HFR.out)]; rfl
  by_cases hlt : k < fs.length
  ·obtain ⟨aa, cc, e0, hcells⟩ := HFA.out
   cases e0
   obtain ⟨g, o, rfl, hg, hcs⟩ := hcells (by intro e; simp [e] at hlt)
   obtain ⟨cv, c0, c1, c2, c3, hca⟩ := hcs k hlt
   obtain ⟨xa, xc, rfl, -⟩ := id hca
   have hgw : ∀ o, wr.cell? ⟨g, o, none⟩ = w.cell? ⟨g, o, none⟩ := fun o => (HBW.out wr HFR.out).cell hg (fun h => h)
   have g0 : wr.cell? ⟨g, o + k * 4, none⟩ = some (vI fs[k].P) := (hgw _).trans c0
   have g1 : wr.cell? ⟨g, o + k * 4 + 1, none⟩ = some (vI fs[k].R) := (hgw _).trans c1
   have g2 : wr.cell? ⟨g, o + k * 4 + 2, none⟩ = some (vI fs[k].V) := (hgw _).trans c2
   have g3 : wr.cell? ⟨g, o + k * 4 + 3, none⟩ = some (.slice xa fs[k].code.length xc) := (hgw _).trans c3
   have HTK : Hd (∀ ds, docH fs[k] = ds → cs ++ ds = pre ++ (fs.take (k + 1)).flatMap docH) := fun ds e => by
    rw [List.take_add_one, List.flatMap_append, ← List.append_assoc, ← HCS.out]
    simp [List.getElem?_eq_getElem hlt, e]
   have hcl4 := (HCODE.out fs[k] (List.getElem_mem hlt)).1
   have HDH : Hd (docH fs[k] = leN 1 fs[k].P ++ leN 1 fs[k].R ++ leN 1 fs[k].V ++ leN 2 (fs[k].code.length : Nat)) := rfl
   generalize fs[k] = f at *
   have hkn : (0 : Int) ≤ k ∧ (k : Int) < fs.length := by omega
   obtain ⟨p1, hp1, hq1⟩ := u8_le f.P
   obtain ⟨p2, hp2, hq2⟩ := u8_le f.R
   obtain ⟨p3, hp3, hq3⟩ := u8_le f.V
   have HDS : Hd (docH f = [p1] ++ [p2] ++ [p3] ++ leBytes 2 f.code.length) := by unfold Hd; rw [HDH.out, hq1, hq2, hq3, leN_nat _ _ (by omega)]
   clear hcells hcs c0 c1 c2 c3 hca hgw HCS hq1 hq2 hq3 HDH
   go_upto_region 10 with fail
   obtain ⟨wb, hwb⟩ : ∃ wb, wb = wr.alloc (.cells #[vI f.P, vI f.R, vI f.V, .slice xa f.code.length xc] 42) := ⟨_, rfl⟩
   obtain ⟨Z, hZ⟩ : ∃ Z, Z = wr.heap.size := ⟨_, rfl⟩
   have hfb : Fb B wr wb := by rw [hwb]; exact Fr.alloc (Fr.refl _ _) _
   have hzb : wb.heap[Z]? = some (.cells #[vI f.P, vI f.R, vI f.V, .slice xa f.code.length xc] 42) := by rw [hwb, hZ]; exact heap_new wr _
   have hbb : Bo wb B u5 cs := ⟨by rw [hwb]; exact hb.1.alloc _, Nat.le_trans hb.2 hfb.size⟩
   have HZ : Hd (∀ wx, Fb B wb wx → wx.heap[Z]? = some (.cells #[vI f.P, vI f.R, vI f.V, .slice xa f.code.length xc] 42)) := fun wx fx => fx.keep hzb (by decide)
   have HFB : Hd (Fb B w1 wb) := HFR.out.trans hfb
   rw [show wr.alloc (.cells #[.int .i64 f.P, .int .i64 f.R, .int .i64 f.V, .slice xa f.code.length xc] 42) = wb from hwb.symm, ← hZ]
   have HG0 : Hd (Fb B wb wb) := Fb.refl _ _
   clear hb hfb hzb hwb hZ g0 g1 g2 g3 q1
   have a0 : wb.cell? ⟨Z, 0, none⟩ = some (vI f.P) := by rw [cell_of (HZ.out wb HG0.out)]; rfl
   have hcell1 : ∀ (j : Nat) (u : Value), [u8v p1][j]? = some u → (wb.alloc (.cells #[u8v p1] 5)).cell? ((⟨wb.heap.size, 0, none⟩ : Addr).add j) = some u := by
    intro j u hu
    rw [addr_add, World.cell?_alloc_new]
    simpa using hu
   have hkb : (cs).length + 1 ≤ maxLen := by unfold maxLen; first | omega | (simp; omega)
   have hln : (cs).length ≤ 9000000000 := by first | omega | (simp; omega)
   have hBn := hbb.2
   go_upto_region 11 with ((at_builtin; refine wpList_append_own _ rfl (.tmp 37) (.tmp 41) 27 rfl B 5 i5 (.int .u8 0) 1 1 Tryd.underlying27 hi5 hz5 hs5 hb5 rfl (by omega) u5 (cs).length _ rfl (hbb.1.alloc _) ⟨wb.heap.size, 0, none⟩ 1 1 [u8v p1] rfl rfl hcell1 (by intro u hu; simp at hu; subst hu; rfl) hkb (by omega) (by simp; omega) ?_; intro vb1 wb1 hown hgrow hnil))
   obtain ⟨hb', hf'⟩ := hbb.more _ hown hgrow
   have HG1 : Hd (Fb B wb wb1) := HG0.out.trans hf'
   clear hbb hown hgrow hnil hcell1 hkb hln a0 hp1 hBn hf'
   have hbb := hb'
   clear hb'
   have a1 : wb1.cell? ⟨Z, 1, none⟩ = some (vI f.R) := by rw [cell_of (HZ.out wb1 HG1.out)]; rfl
   have hcell1 : ∀ (j : Nat) (u : Value), [u8v p2][j]? = some u → (wb1.alloc (.cells #[u8v p2] 5)).cell? ((⟨wb1.heap.size, 0, none⟩ : Addr).add j) = some u := by
    intro j u hu
    rw [addr_add, World.cell?_alloc_new]
    simpa using hu
   have hkb : (cs ++ [p1]).length + 1 ≤ maxLen := by unfold maxLen; first | omega | (simp; omega)
   have hln : (cs ++ [p1]).length ≤ 9000000000 := by first | omega | (simp; omega)
   have hBn := hbb.2
   go_upto_region 12 with ((at_builtin; refine wpList_append_own _ rfl (.tmp 43) (.tmp 47) 27 rfl B 5 i5 (.int .u8 0) 1 1 Tryd.underlying27 hi5 hz5 hs5 hb5 rfl (by omega) vb1 (cs ++ [p1]).length _ rfl (hbb.1.alloc _) ⟨wb1.heap.size, 0, none⟩ 1 1 [u8v p2] rfl rfl hcell1 (by intro u hu; simp at hu; subst hu; rfl) hkb (by omega) (by simp; omega) ?_; intro vb2 wb2 hown hgrow hnil))
   obtain ⟨hb', hf'⟩ := hbb.more _ hown hgrow
   have HG2 : Hd (Fb B wb wb2) := HG1.out.trans hf'
   clear hbb hown hgrow hnil hcell1 hkb hln a1 hp2 hBn hf'
   have hbb := hb'
   clear hb'
   have a2 : wb2.cell? ⟨Z, 2, none⟩ = some (vI f.V) := by rw [cell_of (HZ.out wb2 HG2.out)]; rfl
   have hcell1 : ∀ (j : Nat) (u : Value), [u8v p3][j]? = some u → (wb2.alloc (.cells #[u8v p3] 5)).cell? ((⟨wb2.heap.size, 0, none⟩ : Addr).add j) = some u := by
    intro j u hu
    rw [addr_add, World.cell?_alloc_new]
    simpa using hu
   have hkb : (cs ++ [p1] ++ [p2]).length + 1 ≤ maxLen := by unfold maxLen; first | omega | (simp; omega)
   have hln : (cs ++ [p1] ++ [p2]).length ≤ 9000000000 := by first | omega | (simp; omega)
   have hBn := hbb.2
   go_upto_region 13 with ((at_builtin; refine wpList_append_own _ rfl (.tmp 49) (.tmp 53) 27 rfl B 5 i5 (.int .u8 0) 1 1 Tryd.underlying27 hi5 hz5 hs5 hb5 rfl (by omega) vb2 (cs ++ [p1] ++ [p2]).length _ rfl (hbb.1.alloc _) ⟨wb2.heap.size, 0, none⟩ 1 1 [u8v p3] rfl rfl hcell1 (by intro u hu; simp at hu; subst hu; rfl) hkb (by omega) (by simp; omega) ?_; intro vb3 wb3 hown hgrow hnil))
   obtain ⟨hb', hf'⟩ := hbb.more _ hown hgrow
   have HG3 : Hd (Fb B wb wb3) := HG2.out.trans hf'
   clear hbb hown hgrow hnil hcell1 hkb hln a2 hp3 hBn hf'
   have hbb := hb'
   clear hb'
   have a3 : wb3.cell? ⟨Z, 3, none⟩ = some (.slice xa f.code.length xc) := by rw [cell_of (HZ.out wb3 HG3.out)]; rfl
   have hcall := add_any vb3 (cs ++ [p1] ++ [p2] ++ [p3]) B f.code.length 2 wb3 hbb (by simp; omega) (by omega) (by omega)
   have hu : IntKind.u64.wrap (f.code.length : Int) = f.code.length := by
    simp only [IntKind.wrap, IntKind.signed, IntKind.bits]
    simp
    omega
   have HT : Hd (cs ++ [p1] ++ [p2] ++ [p3] ++ leBytes 2 f.code.length = pre ++ (fs.take (k + 1)).flatMap docH) := by
    unfold Hd
    rw [← HTK.out _ HDS.out]
    simp only [List.append_assoc]
   clear hbb HTK HDS
   go_wp2_with fail
   refine hcall.mono ?_
   rintro e w7 ⟨v7, rfl, hb7, hf7⟩
   clear hcall a3
   go_wp2_with fail
   exact ⟨⟨k + 1, _, by omega, by simp, hb7, HT.out, by simp [leBytes_length]; omega, (HFB.out.trans HG3.out).trans hf7⟩, by simp; omega⟩
  ·have hkn : k = fs.length := by omega
   subst hkn
   have e1 := HCS.out
   rw [List.take_of_length_le (Nat.le_refl _)] at e1
   have HP2 : Hd (cs = pre ++ fs.flatMap docH) := e1
   have HB4 : Hd (Bo wr B u5 cs) := hb
   clear hb e1 HCS HB3 HF3
   go_wp2_with fail
   clear q1
   obtain ⟨n, hn⟩ : ∃ n, n = fs.length := ⟨_, rfl⟩
   have HN : Hd (n = fs.length) := hn
   rw [← hn] at hcl hnf
   have hpl : cs.length ≤ 400000 := by omega
   rw [← hn] at HX ⊢
   clear hn hk hlt
   obtain ⟨pr, hpr⟩ : ∃ pr, pr = cs := ⟨_, rfl⟩
   rw [← hpr] at HP2 HB4 hpl
   go_loopw [5, 8] (fun u i wq => ∃ (k : Nat) (cs : List UInt8), k ≤ n ∧ i = .int .i64 k ∧ Bo wq B u cs ∧ Hd (cs = pr ++ (fs.take k).flatMap docC) ∧ cs.length ≤ 400000 + 3149824 * k ∧ Hd (Fb B w1 wq)) (fun _ i _ => match i with | .int _ q => n - q.toNat | _ => 0)
   case atStart => exact ⟨0, pr, Nat.zero_le _, rfl, HB4.out, by unfold Hd; simp, by omega, HFR.out⟩
   case round =>
    obtain ⟨k, ds, hk, rfl, hb, HDS, hdl, HFQ⟩ := hrel
    have q1 : wr.cell? ⟨B, 1, none⟩ = some (.slice fa n fc) := by rw [cell_of (HX.out wr HFQ.out)]; rfl
    by_cases hlt : k < n
    rotate_left
    ·have hkn : k = n := by omega
     subst hkn
     have HBB : Hd (Bo wr B u5 ds) := hb
     have HE : Hd (ds = docAll G fs) := by
      unfold Hd docAll
      rw [HDS.out, HN.out, List.take_of_length_le (Nat.le_refl _), HP2.out, HPRE.out]
     clear hb
     go_wp2_with fail
     go_ret2
     refine ⟨HBW.out wr HFQ.out, fun _ => ⟨_, rfl, ?_⟩, fun e => absurd rfl e⟩
     rw [← HE.out, ← HBw.out]
     exact HBB.out
    obtain ⟨aa, cc, e0, hcells⟩ := HFA.out
    cases e0
    have hlf : k < fs.length := by rw [← HN.out]; exact hlt
    obtain ⟨g, o, rfl, hg, hcs⟩ := hcells (by intro e; simp [e] at hlf)
    obtain ⟨cv, c0, c1, c2, c3, hca⟩ := hcs k hlf
    obtain ⟨xa, xc, rfl, hcc⟩ := id hca
    have HG3 : Hd (∀ wx, Fb B w1 wx → wx.cell? ⟨g, o + k * 4 + 3, none⟩ = some (.slice xa fs[k].code.length xc)) := fun wx f => ((HBW.out wx f).cell hg (fun h => h)).trans c3
    have HTK : Hd (pr ++ (fs.take (k + 1)).flatMap docC = pr ++ (fs.take k).flatMap docC ++ fs[k].code.flatMap docI) := by
     unfold Hd
     rw [List.take_add_one, List.flatMap_append, ← List.append_assoc]
     simp [List.getElem?_eq_getElem hlf]
     rfl
    obtain ⟨hcl4, hcin⟩ := HCODE.out fs[k] (List.getElem_mem hlf)
    have HCI : Hd _ := hcin
    have HCC : Hd _ := hcc
    generalize fs[k] = f at *
    have hkn : (0 : Int) ≤ k ∧ (k : Int) < n := by omega
    have HB5 : Hd (Bo wr B u5 ds) := hb
    have g3 := HG3.out wr HFQ.out
    clear hcells hcs c0 c1 c2 c3 hca hcc hcin hb
    go_wp2_with fail
    clear q1 g3
    go_loopw [5, 9] (fun u i wq => ∃ (j : Nat) (es : List UInt8), j ≤ f.code.length ∧ i = .int .i64 j ∧ Bo wq B u es ∧ Hd (es = pr ++ (fs.take k).flatMap docC ++ (f.code.take j).flatMap docI) ∧ es.length ≤ 400000 + 3149824 * k + 769 * j ∧ Hd (Fb B w1 wq)) (fun _ i _ => match i with | .int _ q => f.code.length - q.toNat | _ => 0)
    case atStart => exact ⟨0, ds, Nat.zero_le _, rfl, HB5.out, by unfold Hd; simpa using HDS.out, by omega, HFQ.out⟩
    case round =>
     obtain ⟨j, es, hj, rfl, hb, HES, hel, HFP⟩ := hrel
     have q1 : wr.cell? ⟨B, 1, none⟩ = some (.slice (some ⟨g, o, none⟩) n fc) := by rw [cell_of (HX.out wr HFP.out)]; rfl
     have g3 := HG3.out wr HFP.out
     by_cases hjt : j < f.code.length
     ·obtain ⟨g', o', rfl, hg', hci⟩ := HCC.out (by intro e; simp [e] at hjt)
      obtain ⟨av, rv, d0, d1, d2, d3, d4, d5, d6, hav, hrv⟩ := hci j hjt
      have hcw : ∀ o, wr.cell? ⟨g', o, none⟩ = w.cell? ⟨g', o, none⟩ := fun o => (HBW.out wr HFP.out).cell hg' (fun h => h)
      have m0 := (hcw _).trans d0
      have m1 := (hcw _).trans d1
      have m2 := (hcw _).trans d2
      have m3 := (hcw _).trans d3
      have m4 := (hcw _).trans d4
      have m5 := (hcw _).trans d5
      have m6 := (hcw _).trans d6
      obtain ⟨hl1, hl2⟩ := HCI.out f.code[j] (List.getElem_mem hjt)
      have hib : ∀ {v : Value} {l : List Int}, IA w v l → IB B wr v l := fun {v l} h => by
       obtain ⟨a, c, e, h⟩ := h
       refine ⟨a, c, e, fun hne => ?_⟩
       obtain ⟨k, o, e, hk, hc⟩ := h hne
       exact ⟨k, o, e, by rw [HBw.out]; exact hk, Nat.lt_of_lt_of_le hk (HBW.out wr HFP.out).size, fun j hj => ((HBW.out wr HFP.out).cell hk (fun h => h)).trans (hc j hj)⟩
      have hcall := laid_any u5 es B f.code[j] av rv wr hb (hib hav) (hib hrv) hl1 hl2 (by omega)
      have HT : Hd (es ++ docI f.code[j] = pr ++ (fs.take k).flatMap docC ++ (f.code.take (j + 1)).flatMap docI) := by
       unfold Hd
       rw [List.take_add_one, List.flatMap_append, ← List.append_assoc, ← HES.out]
       simp [List.getElem?_eq_getElem hjt]
      have hdi := docI_len f.code[j] hl1 hl2
      generalize f.code[j] = c at *
      obtain ⟨av1, av2, rfl, -⟩ := id hav
      obtain ⟨rv1, rv2, rfl, -⟩ := id hrv
      have hjn : (0 : Int) ≤ j ∧ (j : Int) < f.code.length := by omega
      clear hci d0 d1 d2 d3 d4 d5 d6 hav hrv hcw hl1 hl2 hib hb HES
      go_wp2_with fail
      refine hcall.mono ?_
      rintro e w7 ⟨v7, rfl, hb7, hf7⟩
      clear hcall m0 m1 m2 m3 m4 m5 m6 q1 g3
      go_wp2_with fail
      exact ⟨⟨j + 1, _, by omega, by simp, hb7, HT.out, by rw [List.length_append]; omega, HFP.out.trans hf7⟩, by simp; omega⟩
     ·have hjn : j = f.code.length := by omega
      subst hjn
      have HBJ : Hd (Bo wr B u5 es) := hb
      have HT : Hd (es = pr ++ (fs.take (k + 1)).flatMap docC) := by
       have := HES.out
       rw [List.take_of_length_le (Nat.le_refl _)] at this
       unfold Hd
       rw [HTK.out]
       exact this
      clear hb HES
      go_wp2_with fail
      exact ⟨⟨k + 1, es, by omega, by simp, HBJ.out, HT.out, by omega, HFP.out⟩, by simp; omega⟩
end Go.Proofs.YtingenonbkencabDoor
