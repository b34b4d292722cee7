import Derived.Test.YtjmbfjaahadbhaaGreatDoorQN2J
import Derived.Test.YtjmbfjaahadbhaaGreatDoorQB5J
import Derived.Deep.Slices
import Derived.SizedLaws
set_option linter.unusedVariables false
set_option linter.unusedSimpArgs false
namespace Go.Proofs.YtjmbfjaahadbhaaGreatDoor
open Go.RowKit (wrap32 wrap64)

/-- An instruction, a function. -/
structure PI where
  op : Int
  r : Int
  s : Int
  t : Int
  n : Int
  args : List Int
  rets : List Int
structure PF where
  P : Int
  R : Int
  V : Int
  code : List PI

/-- Instructions that lie in a row, none of them in block b. -/
def CL (b : Nat) (w : World) (v : Value) (c : List PI) : Prop :=
  c.length ≤ 1000000000000000 ∧ ∃ a cp, v = .slice a c.length cp ∧ (c ≠ [] → ∃ k o, a = some ⟨k, o, none⟩ ∧ k < w.heap.size ∧ k ≠ b ∧ ∀ j (h : j < c.length), ∃ av rv,
    w.cell? ⟨k, o + j * 7, none⟩ = some (vI c[j].op) ∧ w.cell? ⟨k, o + j * 7 + 1, none⟩ = some (vI c[j].r) ∧ w.cell? ⟨k, o + j * 7 + 2, none⟩ = some (vI c[j].s) ∧ w.cell? ⟨k, o + j * 7 + 3, none⟩ = some (vI c[j].t) ∧ w.cell? ⟨k, o + j * 7 + 4, none⟩ = some (vI c[j].n) ∧
    w.cell? ⟨k, o + j * 7 + 5, none⟩ = some av ∧ w.cell? ⟨k, o + j * 7 + 6, none⟩ = some rv ∧ IL b w av c[j].args ∧ IL b w rv c[j].rets ∧ c[j].args.length ≤ 1000000000000000 ∧ c[j].rets.length ≤ 1000000000000000)

/-- Functions. -/
def FL (b : Nat) (w : World) (v : Value) (fs : List PF) : Prop :=
  fs.length ≤ 1000000000000000 ∧ ∃ a cp, v = .slice a fs.length cp ∧ (fs ≠ [] → ∃ k o, a = some ⟨k, o, none⟩ ∧ k < w.heap.size ∧ k ≠ b ∧ ∀ j (h : j < fs.length), ∃ cv,
    w.cell? ⟨k, o + j * 4, none⟩ = some (vI fs[j].P) ∧ w.cell? ⟨k, o + j * 4 + 1, none⟩ = some (vI fs[j].R) ∧ w.cell? ⟨k, o + j * 4 + 2, none⟩ = some (vI fs[j].V) ∧ w.cell? ⟨k, o + j * 4 + 3, none⟩ = some cv ∧ CL b w cv fs[j].code)

theorem CL.fr {S : Nat → Prop} {b : Nat} {w w' : World} {v : Value} {c : List PI} (h : CL b w v c) (f : Fr S w w') (hS : ∀ k, S k → k = b) : CL b w' v c := by
  obtain ⟨h0, a, cp, e, h⟩ := h
  refine ⟨h0, a, cp, e, fun hne => ?_⟩
  obtain ⟨k, o, e, hk, hb, hc⟩ := h hne
  refine ⟨k, o, e, Nat.lt_of_lt_of_le hk f.size, hb, fun j hj => ?_⟩
  obtain ⟨av, rv, h1, h2, h3, h4, h5, h6, h7, h8, h9, h10⟩ := hc j hj
  have g : ∀ o, w'.cell? ⟨k, o, none⟩ = w.cell? ⟨k, o, none⟩ := fun o => f.cell hk (fun h => hb (hS k h))
  exact ⟨av, rv, (g _).trans h1, (g _).trans h2, (g _).trans h3, (g _).trans h4, (g _).trans h5, (g _).trans h6, (g _).trans h7, h8.fr f hS, h9.fr f hS, h10⟩

theorem FL.fr {S : Nat → Prop} {b : Nat} {w w' : World} {v : Value} {fs : List PF} (h : FL b w v fs) (f : Fr S w w') (hS : ∀ k, S k → k = b) : FL b w' v fs := by
  obtain ⟨h0, a, cp, e, h⟩ := h
  refine ⟨h0, a, cp, e, fun hne => ?_⟩
  obtain ⟨k, o, e, hk, hb, hc⟩ := h hne
  refine ⟨k, o, e, Nat.lt_of_lt_of_le hk f.size, hb, fun j hj => ?_⟩
  obtain ⟨cv, h1, h2, h3, h4, h5⟩ := hc j hj
  have g : ∀ o, w'.cell? ⟨k, o, none⟩ = w.cell? ⟨k, o, none⟩ := fun o => f.cell hk (fun h => hb (hS k h))
  exact ⟨cv, (g _).trans h1, (g _).trans h2, (g _).trans h3, (g _).trans h4, h5.fr f hS⟩

/-! ### without addresses -/
def SimX (r r' : X (WS × Unit)) : Prop := match r, r' with
  | .ok y, .ok y' => y.1.bare = y'.1.bare
  | .error z, .error z' => z = z'
  | _, _ => False

theorem SimX.then {c c' : X (WS × Unit)} {p p' : WS × Unit → X (WS × Unit)} (h : SimX c c') (hp : ∀ y y', y.1.bare = y'.1.bare → SimX (p y) (p' y')) : SimX (thenX c p) (thenX c' p') := by
  cases c with
  | ok y => cases c' with
    | ok y' => exact hp y y' h
    | error z => exact h.elim
  | error z => cases c' with
    | ok y' => exact h.elim
    | error z' => exact h

theorem SimX.cast {r r' q q' : X (WS × Unit)} (h1 : r = q) (h2 : r' = q') (h : SimX q q') : SimX r r' := by
  subst h1; subst h2; exact h

theorem bare_at {s s' : WS} (h : s.bare = s'.bare) : s.at' = s'.at' := (congrArg WS.at' h : s.bare.at' = s'.bare.at')
theorem bare_with {s s' : WS} (h : s.bare = s'.bare) (a : Int) : ({ s with at' := a } : WS).bare = ({ s' with at' := a } : WS).bare := (congrArg (fun t : WS => ({ t with at' := a } : WS)) h : ({ s.bare with at' := a } : WS) = { s'.bare with at' := a })

theorem L_ask {b : Nat} (o size : Nat) (c : WS → Bool) (er : Int) (s : WS) (u : Unit) : askX (leaving b) o size c er (s, u) = if c { s with at' := adv s.at' size } then .ok ({ s with at' := adv s.at' size }, u) else .error (er, s.at') := by
  unfold askX
  split
  · rename_i y hy
    have hy2 := Except.ok.inj (hy.symm.trans (L_next o size s u))
    subst hy2
    rfl
  · rename_i z hz
    cases hz.symm.trans (L_next o size s u)

theorem sim_next {b : Nat} (o size : Nat) (x x' : WS × Unit) (h : x.1.bare = x'.1.bare) : SimX (nextX (leaving b) o size x) (nextX (leaving b) o size x') := by
  obtain ⟨s, u⟩ := x
  obtain ⟨s', u'⟩ := x'
  have h : s.bare = s'.bare := h
  refine SimX.cast (L_next o size s u) (L_next o size s' u') ?_
  show _ = _
  rw [bare_at h]
  exact bare_with h _

theorem sim_ask {b : Nat} (o size : Nat) (c : WS → Bool) (hc : ∀ s, c s.bare = c s) (er : Int) (x x' : WS × Unit) (h : x.1.bare = x'.1.bare) : SimX (askX (leaving b) o size c er x) (askX (leaving b) o size c er x') := by
  obtain ⟨s, u⟩ := x
  obtain ⟨s', u'⟩ := x'
  have h : s.bare = s'.bare := h
  have hb := bare_with h (adv s.at' size)
  have e : c { s with at' := adv s.at' size } = c { s' with at' := adv s'.at' size } := by rw [← hc, ← hc { s' with at' := adv s'.at' size }, ← bare_at h, hb]
  refine SimX.cast (L_ask o size c er s u) (L_ask o size c er s' u') ?_
  rw [e]
  split
  · show _ = _
    rw [← bare_at h]
    exact hb
  · exact congrArg (fun z => (er, z)) (bare_at h)

theorem sim_loc {b : Nat} (n p : Int) (x x' : WS × Unit) (h : x.1.bare = x'.1.bare) : SimX (locX (leaving b) n p x) (locX (leaving b) n p x') := by
  have e : x.1.locs = x'.1.locs := (congrArg WS.locs h : x.1.bare.locs = x'.1.bare.locs)
  unfold locX
  by_cases hc : wrap64 (x.1.locs + n) ≤ 1048576
  · rw [if_pos hc, if_pos (by rw [← e]; exact hc)]
    show _ = _
    rw [e]
    exact (congrArg (fun t : WS => ({ t with locs := wrap64 (x'.1.locs + n) } : WS)) h : ({ x.1.bare with locs := wrap64 (x'.1.locs + n) } : WS) = _)
  · rw [if_neg hc, if_neg (by rw [← e]; exact hc)]
    rfl

theorem SimX.ite {p : Prop} [Decidable p] {a a' c c' : X (WS × Unit)} (h1 : p → SimX a a') (h2 : ¬ p → SimX c c') : SimX (if p then a else c) (if p then a' else c') := by
  by_cases h : p
  · exact SimX.cast (if_pos h) (if_pos h) (h1 h)
  · exact SimX.cast (if_neg h) (if_neg h) (h2 h)

theorem sim_front {b : Nat} (ends makes nb : Bool) (i : Nat) (p p' : Int) (hp : p = p') (x x' : WS × Unit) (h : x.1.bare = x'.1.bare) : SimX (frontOk (leaving b) ends makes nb i p x) (frontOk (leaving b) ends makes nb i p' x') := by
  subst hp
  have e : x.1.len = x'.1.len := (congrArg WS.len h : x.1.bare.len = x'.1.bare.len)
  unfold frontOk
  rw [e]
  refine SimX.ite (fun _ => rfl) (fun _ => SimX.ite (fun _ => rfl) (fun _ => SimX.ite (fun _ => sim_loc 1 p x x' h) (fun _ => h)))

theorem sim_vars : ∀ (l : List Int) (x x' : WS × Unit), x.1.bare = x'.1.bare → SimX (varsL l x) (varsL l x')
  | [], _, _, h => h
  | v :: r, x, x', h => by
    refine SimX.then (p := varsL r) (p' := varsL r) ?_ (fun y y' hy => sim_vars r y y' hy)
    have e : x.1.fV = x'.1.fV := (congrArg WS.fV h : x.1.bare.fV = x'.1.bare.fV)
    unfold oneL
    rw [e]
    split
    · show _ = _
      rw [bare_at h]
      exact bare_with h _
    · exact congrArg (fun z => ((13 : Int), z)) (bare_at h)

theorem sim_list (n : Nat) (l : List Int) (x x' : WS × Unit) (h : x.1.bare = x'.1.bare) : SimX (listL n l x) (listL n l x') := by
  unfold listL
  split
  · refine sim_vars l _ _ ?_
    show _ = _
    rw [bare_at h]
    exact (congrArg (fun t : WS => ({ t with count := l.length, at' := adv x'.1.at' 1 } : WS)) h : ({ x.1.bare with count := l.length, at' := adv x'.1.at' 1 } : WS) = _)
  · exact congrArg (fun z => ((15 : Int), z)) (bare_at h)

theorem sim_parts {b : Nat} (op : Nat) (c c' : X (WS × Unit)) (h : SimX c c') : SimX (partsX (leaving b) op c) (partsX (leaving b) op c') := by
  have hv : ∀ o (y y' : WS × Unit), y.1.bare = y'.1.bare → SimX (varPart (leaving b) o y) (varPart (leaving b) o y') := fun o y y' hy => sim_ask _ _ _ (fun s => by
    show varOk s.bare.fV (s.bare.get o) = varOk s.fV (s.get o)
    unfold WS.get
    rfl) _ y y' hy
  have hn : ∀ (y y' : WS × Unit), y.1.bare = y'.1.bare → SimX (intPart (leaving b) y) (intPart (leaving b) y') := fun y y' hy => sim_next _ _ y y' hy
  have hf : ∀ (y y' : WS × Unit), y.1.bare = y'.1.bare → SimX (fieldsPart (leaving b) y) (fieldsPart (leaving b) y') := fun y y' hy => sim_ask _ _ _ (fun s => rfl) _ y y' hy
  have hd : ∀ (y y' : WS × Unit), y.1.bare = y'.1.bare → SimX (fieldPart (leaving b) y) (fieldPart (leaving b) y') := fun y y' hy => sim_ask _ _ _ (fun s => rfl) _ y y' hy
  have hg : ∀ (y y' : WS × Unit), y.1.bare = y'.1.bare → SimX (globalPart (leaving b) y) (globalPart (leaving b) y') := fun y y' hy => sim_ask _ _ _ (fun s => rfl) _ y y' hy
  have ht : ∀ (y y' : WS × Unit), y.1.bare = y'.1.bare → SimX (targetPart (leaving b) y) (targetPart (leaving b) y') := fun y y' hy => sim_ask _ _ _ (fun s => rfl) _ y y' hy
  match op with
  | 1 => exact (h.then (hv 155)).then hn
  | 2 => exact (h.then (hv 155)).then (hv 156)
  | 3 => exact ((h.then (hv 155)).then (hv 156)).then (hv 157)
  | 4 => exact ((h.then (hv 155)).then (hv 156)).then (hv 157)
  | 5 => exact (h.then (hv 155)).then (hv 156)
  | 6 => exact (h.then (hv 155)).then hf
  | 7 => exact ((h.then (hv 155)).then (hv 156)).then hd
  | 8 => exact ((h.then (hv 155)).then (hv 156)).then hd
  | 9 => exact (h.then (hv 155)).then hg
  | 10 => exact (h.then (hv 156)).then hg
  | 12 => exact h.then (hv 156)
  | 13 => exact h.then ht
  | 14 => exact (h.then (hv 156)).then ht
  | 16 => exact h.then (hv 155)
  | 17 => exact ((h.then (hv 155)).then (hv 156)).then (hv 157)
  | 0 => exact h
  | 11 => exact h
  | 15 => exact h
  | n + 18 => exact h

theorem nbK_bare (k : Nat) (s s' : WS) (la lr : Nat) (h : s.bare = s'.bare) : nbK k s la lr = nbK k s' la lr := by
  have e1 : s.r = s'.r := (congrArg WS.r h : s.bare.r = s'.bare.r)
  have e2 : s.s = s'.s := (congrArg WS.s h : s.bare.s = s'.bare.s)
  have e3 : s.t = s'.t := (congrArg WS.t h : s.bare.t = s'.bare.t)
  have e4 : s.n = s'.n := (congrArg WS.n h : s.bare.n = s'.bare.n)
  unfold nbK
  rw [e1, e2, e3, e4]

theorem instrL_15 {b : Nat} (heads : List (Nat × Nat)) (fR i : Nat) (la lr : List Int) (s : WS) (h : s.op = 15) : instrL (b := b) heads fR i la lr s = retL fR la (frontOk (leaving b) true false (nbK 15 s la.length lr.length) i s.at' ({ s with at' := adv s.at' 1 }, ())) := by
  unfold instrL
  rw [if_pos (by omega), if_pos h]
theorem instrL_11 {b : Nat} (heads : List (Nat × Nat)) (fR i : Nat) (la lr : List Int) (s : WS) (h : s.op = 11) : instrL (b := b) heads fR i la lr s = callL heads la lr (frontOk (leaving b) false false (nbK 11 s la.length lr.length) i s.at' ({ s with at' := adv s.at' 1 }, ())) := by
  unfold instrL
  rw [if_pos (by omega), if_neg (by omega), if_pos h]
theorem instrL_k {b : Nat} (heads : List (Nat × Nat)) (fR i : Nat) (la lr : List Int) (s : WS) (h : 1 ≤ s.op ∧ s.op ≤ 17) (h1 : ¬ s.op = 15) (h2 : ¬ s.op = 11) : instrL (b := b) heads fR i la lr s = partsX (leaving b) s.op.toNat (frontOk (leaving b) (s.op == 13) (s.op == 6) (nbK s.op.toNat s la.length lr.length) i s.at' ({ s with at' := adv s.at' 1 }, ())) := by
  unfold instrL
  rw [if_pos h, if_neg h1, if_neg h2]
theorem instrL_no {b : Nat} (heads : List (Nat × Nat)) (fR i : Nat) (la lr : List Int) (s : WS) (h : ¬ (1 ≤ s.op ∧ s.op ≤ 17)) : instrL (b := b) heads fR i la lr s = .error (12, s.at') := by
  unfold instrL
  rw [if_neg h]

theorem sim_instr {b : Nat} (heads : List (Nat × Nat)) (fR i : Nat) (la lr : List Int) (s s' : WS) (h : s.bare = s'.bare) : SimX (instrL (b := b) heads fR i la lr s) (instrL (b := b) heads fR i la lr s') := by
  have e : s.op = s'.op := (congrArg WS.op h : s.bare.op = s'.bare.op)
  have ea := bare_at h
  have hf : ∀ ends makes k, SimX (frontOk (leaving b) ends makes (nbK k s la.length lr.length) i s.at' ({ s with at' := adv s.at' 1 }, ())) (frontOk (leaving b) ends makes (nbK k s' la.length lr.length) i s'.at' ({ s' with at' := adv s'.at' 1 }, ())) := fun ends makes k => by
    rw [nbK_bare k s s' _ _ h]
    refine sim_front ends makes _ i _ _ ea _ _ ?_
    show _ = _
    rw [← ea]
    exact bare_with h _
  by_cases h1 : 1 ≤ s.op ∧ s.op ≤ 17
  · have h1' : 1 ≤ s'.op ∧ s'.op ≤ 17 := by rw [← e]; exact h1
    by_cases h15 : s.op = 15
    · refine SimX.cast (instrL_15 heads fR i la lr s h15) (instrL_15 heads fR i la lr s' (e ▸ h15)) ?_
      exact SimX.then (hf true false 15) (fun y y' hy => sim_list fR la y y' hy)
    · have h15' : ¬ s'.op = 15 := fun k => h15 (e.trans k)
      by_cases h11 : s.op = 11
      · refine SimX.cast (instrL_11 heads fR i la lr s h11) (instrL_11 heads fR i la lr s' (e ▸ h11)) ?_
        unfold callL
        refine SimX.then (SimX.then (hf false false 11) (fun y y' hy => sim_ask _ _ _ (fun s => rfl) _ y y' hy)) (fun y y' hy => ?_)
        have en : y.1.n = y'.1.n := (congrArg WS.n hy : y.1.bare.n = y'.1.bare.n)
        rw [en]
        exact SimX.then (sim_list _ la y y' hy) (fun z z' hz => sim_list _ lr z z' hz)
      · have h11' : ¬ s'.op = 11 := fun k => h11 (e.trans k)
        refine SimX.cast (instrL_k heads fR i la lr s h1 h15 h11) (instrL_k heads fR i la lr s' h1' h15' h11') ?_
        have h2 := sim_parts (b := b) s.op.toNat _ _ (hf (s.op == 13) (s.op == 6) s.op.toNat)
        have h3 : partsX (leaving b) s.op.toNat (frontOk (leaving b) (s.op == 13) (s.op == 6) (nbK s.op.toNat s' la.length lr.length) i s'.at' ({ s' with at' := adv s'.at' 1 }, ())) = partsX (leaving b) s'.op.toNat (frontOk (leaving b) (s'.op == 13) (s'.op == 6) (nbK s'.op.toNat s' la.length lr.length) i s'.at' ({ s' with at' := adv s'.at' 1 }, ())) := by rw [e]
        exact SimX.cast rfl h3.symm h2
  · refine SimX.cast (instrL_no heads fR i la lr s h1) (instrL_no heads fR i la lr s' (by rw [← e]; exact h1)) ?_
    exact congrArg (fun z => ((12 : Int), z)) ea

theorem sim_head {b : Nat} (x x' : WS × Unit) (h : x.1.bare = x'.1.bare) : SimX (headX (leaving b) x) (headX (leaving b) x') := by
  refine SimX.cast (headX_then (leaving b) x) (headX_then (leaving b) x') ?_
  refine SimX.then (sim_next 149 1 x x' h) (fun y1 y1' h1 => ?_)
  refine SimX.then (sim_next 150 1 y1 y1' h1) (fun y2 y2' h2 => ?_)
  refine SimX.then (sim_next 151 1 y2 y2' h2) (fun y3 y3' h3 => ?_)
  refine SimX.then (sim_next 153 2 y3 y3' h3) (fun y4 y4' h4 => ?_)
  have ea := bare_at h
  have e1 : y4.1.fV = y4'.1.fV := (congrArg WS.fV h4 : y4.1.bare.fV = y4'.1.bare.fV)
  have e2 : y4.1.fP = y4'.1.fP := (congrArg WS.fP h4 : y4.1.bare.fP = y4'.1.bare.fP)
  have e3 : y4.1.fR = y4'.1.fR := (congrArg WS.fR h4 : y4.1.bare.fR = y4'.1.bare.fR)
  have e4 : y4.1.len = y4'.1.len := (congrArg WS.len h4 : y4.1.bare.len = y4'.1.bare.len)
  have ho : headOk y4.1 x.1.at' = headOk y4'.1 x'.1.at' := by
    unfold headOk
    rw [e1, e2, e3, e4, ea]
  have hl : ∀ (r : X Unit), SimX (thenX r fun _ => locX (leaving b) y4.1.fV x.1.at' y4) (thenX r fun _ => locX (leaving b) y4'.1.fV x'.1.at' y4') := fun r => by
    cases r with
    | error z => rfl
    | ok t =>
      show SimX (locX (leaving b) y4.1.fV x.1.at' y4) (locX (leaving b) y4'.1.fV x'.1.at' y4')
      rw [e1, ea]
      exact sim_loc _ _ _ _ h4
  have hh := hl (headOk y4'.1 x'.1.at')
  refine SimX.cast ?_ rfl hh
  show thenX (headOk y4.1 x.1.at') _ = thenX (headOk y4'.1 x'.1.at') _
  rw [ho]


/-! ### instructions -/
abbrev iR (c : PI) (p : Value × Value) : List Value := [vI c.op, vI c.r, vI c.s, vI c.t, vI c.n, p.1, p.2]
abbrev markC : List Value := [vI (-78), vI 0, vI 0, vI 0, vI 0, .slice none 0 0, .slice none 0 0]
abbrev zeroC : List Value := [vI 0, vI 0, vI 0, vI 0, vI 0, .slice none 0 0, .slice none 0 0]
def wideC (cs : List PI) (ps : Nat → Value × Value) (i : Nat) : List Value := match cs[i]? with | some c => iR c (ps i) | none => markC

/-- Instructions that lie somewhere. -/
def CA (w : World) (v : Value) (cs : List PI) : Prop :=
  ∃ a cp, v = .slice a cs.length cp ∧ (cs ≠ [] → ∃ k o, a = some ⟨k, o, none⟩ ∧ k < w.heap.size ∧ ∀ j (h : j < cs.length), ∃ av rv,
    w.cell? ⟨k, o + j * 7, none⟩ = some (vI cs[j].op) ∧ w.cell? ⟨k, o + j * 7 + 1, none⟩ = some (vI cs[j].r) ∧ w.cell? ⟨k, o + j * 7 + 2, none⟩ = some (vI cs[j].s) ∧ w.cell? ⟨k, o + j * 7 + 3, none⟩ = some (vI cs[j].t) ∧ w.cell? ⟨k, o + j * 7 + 4, none⟩ = some (vI cs[j].n) ∧
    w.cell? ⟨k, o + j * 7 + 5, none⟩ = some av ∧ w.cell? ⟨k, o + j * 7 + 6, none⟩ = some rv ∧ IA w av cs[j].args ∧ IA w rv cs[j].rets)
theorem CA.stay {w w' : World} {v : Value} {cs : List PI} (h : CA w v cs) (f : Fr (fun _ => False) w w') : CA w' v cs := by
  obtain ⟨a, cp, rfl, h⟩ := h
  refine ⟨a, cp, rfl, fun hne => ?_⟩
  obtain ⟨k, o, rfl, hk, hc⟩ := h hne
  refine ⟨k, o, rfl, Nat.lt_of_lt_of_le hk f.size, fun j hj => ?_⟩
  obtain ⟨av, rv, h1, h2, h3, h4, h5, h6, h7, h8, h9⟩ := hc j hj
  have g : ∀ o, w'.cell? ⟨k, o, none⟩ = w.cell? ⟨k, o, none⟩ := fun o => f.cell hk (fun h => h)
  exact ⟨av, rv, (g _).trans h1, (g _).trans h2, (g _).trans h3, (g _).trans h4, (g _).trans h5, (g _).trans h6, (g _).trans h7, h8.stay f, h9.stay f⟩

/-- How long the lists of a code are. -/
def FineC (cs : List PI) : Prop := cs.length ≤ 1599289640354 ∧ ∀ c ∈ cs, c.args.length ≤ 17592186043904 ∧ c.rets.length ≤ 17592186043904

/-- Instructions of one's own, with marks behind. -/
def WC (w : World) (B : Nat) (v : Value) (cs : List PI) : Prop :=
  ∃ g ps, v = .slice (some ⟨g, 0, none⟩) cs.length (cs.length + 64) ∧ B ≤ g ∧ Rws w 43 7 g (cs.length + 64) (wideC cs ps) ∧ ∀ i c, cs[i]? = some c → WI w B (ps i).1 c.args ∧ WI w B (ps i).2 c.rets

/-- A block of numbers is none of another type's. -/
theorem WI.ne {w : World} {B g m : Nat} {t sz : Nat} {R : Nat → List Value} {v : Value} {l : List Int} (h : WI w B v l) (hR : Rws w t sz g m R) (ht : t ≠ 3) : ∀ k, v.ownBlock = some k → k ≠ g := by
  obtain ⟨g', rfl, -, cs', h', -⟩ := h
  obtain ⟨cs, h2, -⟩ := hR
  intro k e1 e2
  cases e1
  subst e2
  rw [h'] at h2
  cases h2
  exact ht rfl

theorem wideC_len (cs : List PI) (ps : Nat → Value × Value) (i : Nat) : (wideC cs ps i).length = 7 := by
  unfold wideC; split <;> rfl

theorem under65 : Tryz.prog.underlying 39 = some (.slice 43) := by kernel_rfl
theorem make65 (n : Nat) (hn : n ≤ 1700000000000) (w : World) : (Instr.makeSlice 39 (.int .i64 n) (.int .i64 n)).run Tryz.prog w = .ok (.slice (some ⟨w.heap.size, 0, none⟩) n n) (w.alloc (.cells (madeCells zeroC.toArray (n * 7)) 43)) := by
  rw [run_make_of 39 43 (.agg zeroC.toArray) 7 88 under65 (by kernel_rfl) (by kernel_rfl) (by kernel_rfl) n (by omega) (by omega) w]
  rfl
theorem Rws.made7 (w : World) (m : Nat) : Rws (w.alloc (.cells (madeCells zeroC.toArray (m * 7)) 43)) 43 7 w.heap.size m (fun _ => zeroC) :=
  ⟨_, heap_new w _, by simp [madeCells], fun i o hi ho => by
    have hlt : i * 7 + o < m * 7 := by omega
    have e : (i * 7 + o) % 7 = o := by omega
    unfold madeCells
    simp only [Array.getElem?_map, Array.getElem?_range, hlt, if_true, Option.map_some]
    show some (zeroC.toArray[(i * 7 + o) % 7]!) = _
    rw [e]
    rcases (show o = 0 ∨ o = 1 ∨ o = 2 ∨ o = 3 ∨ o = 4 ∨ o = 5 ∨ o = 6 by omega) with rfl | rfl | rfl | rfl | rfl | rfl | rfl <;> rfl⟩
theorem list7 {α : Type} : ∀ (l : List α), l.length = 7 → ∃ a b c d e f g, l = [a, b, c, d, e, f, g]
  | [a, b, c, d, e, f, g], _ => ⟨a, b, c, d, e, f, g, rfl⟩

/-- Seven stores, one behind the other. -/
def sev7 (w : World) (g q : Nat) (x : List Value) : World :=
  ((((((w.setCell ⟨g, q, none⟩ (x.getD 0 undef)).setCell ⟨g, q + 1, none⟩ (x.getD 1 undef)).setCell ⟨g, q + 2, none⟩ (x.getD 2 undef)).setCell ⟨g, q + 3, none⟩ (x.getD 3 undef)).setCell ⟨g, q + 4, none⟩ (x.getD 4 undef)).setCell ⟨g, q + 5, none⟩ (x.getD 5 undef)).setCell ⟨g, q + 6, none⟩ (x.getD 6 undef)
theorem Rws.set7 {w : World} {t g m : Nat} {R : Nat → List Value} (h : Rws w t 7 g m R) {i : Nat} (hi : i < m) (hl : (R i).length = 7) (x : List Value) (hx : x.length = 7) : Rws (sev7 w g (i * 7) x) t 7 g m (at1 R i x) := by
  have h0 := h.set1 (o := 0) hi (by omega) hl (x.getD 0 undef)
  have h1 := h0.set1 (i := i) (o := 1) hi (by omega) (by rw [at1_self]; simpa using hl) (x.getD 1 undef)
  have h2 := h1.set1 (i := i) (o := 2) hi (by omega) (by rw [at1_self, at1_self]; simpa using hl) (x.getD 2 undef)
  have h3 := h2.set1 (i := i) (o := 3) hi (by omega) (by simp only [at1_self, List.length_set]; exact hl) (x.getD 3 undef)
  have h4 := h3.set1 (i := i) (o := 4) hi (by omega) (by simp only [at1_self, List.length_set]; exact hl) (x.getD 4 undef)
  have h5 := h4.set1 (i := i) (o := 5) hi (by omega) (by simp only [at1_self, List.length_set]; exact hl) (x.getD 5 undef)
  have h6 := h5.set1 (i := i) (o := 6) hi (by omega) (by simp only [at1_self, List.length_set]; exact hl) (x.getD 6 undef)
  simp only [at1_at1, at1_self, Nat.add_zero] at h6
  obtain ⟨a, b, c, d, e, f, gg, hR⟩ := list7 _ hl
  obtain ⟨x0, x1, x2, x3, x4, x5, x6, rfl⟩ := list7 _ hx
  rw [hR] at h6
  simp only [List.set_cons_zero, List.set_cons_succ, List.getD_cons_zero, List.getD_cons_succ] at h6
  unfold sev7
  simp only [List.getD_cons_zero, List.getD_cons_succ]
  exact h6
theorem sev7_fr (w : World) (g q : Nat) (x : List Value) : Fr (fun k => k = g) w (sev7 w g q x) := by
  unfold sev7
  refine Fr.setCell (S := fun k => k = g) ?_ _ _ (Or.inl rfl)
  refine Fr.setCell (S := fun k => k = g) ?_ _ _ (Or.inl rfl)
  refine Fr.setCell (S := fun k => k = g) ?_ _ _ (Or.inl rfl)
  refine Fr.setCell (S := fun k => k = g) ?_ _ _ (Or.inl rfl)
  refine Fr.setCell (S := fun k => k = g) ?_ _ _ (Or.inl rfl)
  refine Fr.setCell (S := fun k => k = g) ?_ _ _ (Or.inl rfl)
  refine Fr.setCell (S := fun k => k = g) ?_ _ _ (Or.inl rfl)
  exact Fr.refl _ _


theorem WC.fr {S : Nat → Prop} {w w' : World} {B : Nat} {v : Value} {cs : List PI} (h : WC w B v cs) (f : Fr S w w') (hS : ∀ k, S k → k < B) : WC w' B v cs := by
  obtain ⟨g, ps, rfl, h1, h2, h3⟩ := h
  have no : ∀ k, B ≤ k → ¬ S k := fun k hk e => by have := hS k e; omega
  exact ⟨g, ps, rfl, h1, h2.fr f (no g h1), fun i c hc => ⟨(h3 i c hc).1.fr f (fun k e => no k ((h3 i c hc).1.ge k e).1), (h3 i c hc).2.fr f (fun k e => no k ((h3 i c hc).2.ge k e).1)⟩⟩
theorem WC.stay {w w' : World} {B : Nat} {v : Value} {cs : List PI} (h : WC w B v cs) (f : Fr (fun _ => False) w w') : WC w' B v cs := h.fr f (fun _ e => e.elim)
theorem WC.mono {w : World} {B B' : Nat} {v : Value} {cs : List PI} (h : WC w B v cs) (hB : B' ≤ B) : WC w B' v cs := by
  obtain ⟨g, ps, rfl, h1, h2, h3⟩ := h
  exact ⟨g, ps, rfl, by omega, h2, fun i c hc => ⟨(h3 i c hc).1.mono hB, (h3 i c hc).2.mono hB⟩⟩
theorem WC.ca {w : World} {B : Nat} {v : Value} {cs : List PI} (h : WC w B v cs) : CA w v cs := by
  obtain ⟨g, ps, rfl, h1, h2, h3⟩ := h
  refine ⟨_, _, rfl, fun _ => ⟨g, 0, rfl, h2.lt, fun j hj => ?_⟩⟩
  have pc := fun o (ho : o < 7) => h2.cell (i := j) (o := o) (by omega) ho
  have e1 : wideC cs ps j = iR cs[j] (ps j) := by unfold wideC; rw [List.getElem?_eq_getElem hj]
  rw [e1] at pc
  have hw := h3 j cs[j] (List.getElem?_eq_getElem hj)
  rw [Nat.zero_add]
  exact ⟨(ps j).1, (ps j).2, pc 0 (by omega), pc 1 (by omega), pc 2 (by omega), pc 3 (by omega), pc 4 (by omega), pc 5 (by omega), pc 6 (by omega), hw.1.ia, hw.2.ia⟩
theorem WC.ge {w : World} {B : Nat} {v : Value} {cs : List PI} (h : WC w B v cs) : ∀ k, v.ownBlock = some k → B ≤ k ∧ k < w.heap.size := by
  obtain ⟨g, ps, rfl, h1, h2, h3⟩ := h
  intro k e; cases e; exact ⟨h1, h2.lt⟩


/-! ### functions -/
abbrev fR (f : PF) (cv : Value) : List Value := [vI f.P, vI f.R, vI f.V, cv]
abbrev markF : List Value := [vI 0, vI 0, vI (-77), .slice none 0 0]
abbrev zeroF : List Value := [vI 0, vI 0, vI 0, .slice none 0 0]
def wideF (fs : List PF) (cv : Nat → Value) (i : Nat) : List Value := match fs[i]? with | some f => fR f (cv i) | none => markF

/-- Functions that lie somewhere. -/
def FA (w : World) (v : Value) (fs : List PF) : Prop :=
  ∃ a cp, v = .slice a fs.length cp ∧ (fs ≠ [] → ∃ k o, a = some ⟨k, o, none⟩ ∧ k < w.heap.size ∧ ∀ j (h : j < fs.length), ∃ cv,
    w.cell? ⟨k, o + j * 4, none⟩ = some (vI fs[j].P) ∧ w.cell? ⟨k, o + j * 4 + 1, none⟩ = some (vI fs[j].R) ∧ w.cell? ⟨k, o + j * 4 + 2, none⟩ = some (vI fs[j].V) ∧ w.cell? ⟨k, o + j * 4 + 3, none⟩ = some cv ∧ CA w cv fs[j].code)
theorem FA.stay {w w' : World} {v : Value} {fs : List PF} (h : FA w v fs) (f : Fr (fun _ => False) w w') : FA w' v fs := by
  obtain ⟨a, cp, rfl, h⟩ := h
  refine ⟨a, cp, rfl, fun hne => ?_⟩
  obtain ⟨k, o, rfl, hk, hc⟩ := h hne
  refine ⟨k, o, rfl, Nat.lt_of_lt_of_le hk f.size, fun j hj => ?_⟩
  obtain ⟨cv, h1, h2, h3, h4, h5⟩ := hc j hj
  have g : ∀ o, w'.cell? ⟨k, o, none⟩ = w.cell? ⟨k, o, none⟩ := fun o => f.cell hk (fun h => h)
  exact ⟨cv, (g _).trans h1, (g _).trans h2, (g _).trans h3, (g _).trans h4, h5.stay f⟩

def FineP (fs : List PF) : Prop := fs.length ≤ 2932031007317 ∧ ∀ f ∈ fs, FineC f.code

/-- Functions of one's own, with marks behind. -/
structure WF (w : World) (B : Nat) (v : Value) (fs : List PF) (g : Nat) (cv : Nat → Value) : Prop where
  val : v = .slice (some ⟨g, 0, none⟩) fs.length (fs.length + 64)
  ge : B ≤ g
  row : Rws w 41 4 g (fs.length + 64) (wideF fs cv)
  code : ∀ i f, fs[i]? = some f → WC w B (cv i) f.code
  apart : ∀ i j, i < fs.length → j < fs.length → i ≠ j → (cv i).ownBlock ≠ (cv j).ownBlock

theorem WC.ne {w : World} {B g m : Nat} {t sz : Nat} {R : Nat → List Value} {v : Value} {cs : List PI} (h : WC w B v cs) (hR : Rws w t sz g m R) (ht : t ≠ 43) : ∀ k, v.ownBlock = some k → k ≠ g := by
  obtain ⟨g', ps, rfl, -, ⟨cs', h', -⟩, -⟩ := h
  obtain ⟨cs, h2, -⟩ := hR
  intro k e1 e2
  cases e1
  subst e2
  rw [h'] at h2
  cases h2
  exact ht rfl
/-- What is written is one block, of functions. -/
theorem WC.at {w w' : World} {B g m : Nat} {R : Nat → List Value} {v : Value} {cs : List PI} (h : WC w B v cs) (hR : Rws w 41 4 g m R) (f : Fr (fun k => k = g) w w') : WC w' B v cs := by
  have hne := h.ne hR (by decide)
  obtain ⟨g', ps, rfl, h1, h2, h3⟩ := h
  exact ⟨g', ps, rfl, h1, h2.fr f (hne g' rfl), fun i c hc => ⟨(h3 i c hc).1.fr f ((h3 i c hc).1.ne hR (by decide)), (h3 i c hc).2.fr f ((h3 i c hc).2.ne hR (by decide))⟩⟩

theorem under24 : Tryz.prog.underlying 22 = some (.slice 41) := by kernel_rfl
theorem make24 (n : Nat) (hn : n ≤ 3000000000000) (w : World) : (Instr.makeSlice 22 (.int .i64 n) (.int .i64 n)).run Tryz.prog w = .ok (.slice (some ⟨w.heap.size, 0, none⟩) n n) (w.alloc (.cells (madeCells zeroF.toArray (n * 4)) 41)) := by
  rw [run_make_of 22 41 (.agg zeroF.toArray) 4 48 under24 (by kernel_rfl) (by kernel_rfl) (by kernel_rfl) n (by omega) (by omega) w]
  rfl
theorem Rws.made4 (w : World) (m : Nat) : Rws (w.alloc (.cells (madeCells zeroF.toArray (m * 4)) 41)) 41 4 w.heap.size m (fun _ => zeroF) :=
  ⟨_, heap_new w _, by simp [madeCells], fun i o hi ho => by
    have hlt : i * 4 + o < m * 4 := by omega
    have e : (i * 4 + o) % 4 = o := by omega
    unfold madeCells
    simp only [Array.getElem?_map, Array.getElem?_range, hlt, if_true, Option.map_some]
    show some (zeroF.toArray[(i * 4 + o) % 4]!) = _
    rw [e]
    rcases (show o = 0 ∨ o = 1 ∨ o = 2 ∨ o = 3 by omega) with rfl | rfl | rfl | rfl <;> rfl⟩
theorem list4 {α : Type} : ∀ (l : List α), l.length = 4 → ∃ a b c d, l = [a, b, c, d]
  | [a, b, c, d], _ => ⟨a, b, c, d, rfl⟩
def fou4 (w : World) (g q : Nat) (x : List Value) : World :=
  (((w.setCell ⟨g, q, none⟩ (x.getD 0 undef)).setCell ⟨g, q + 1, none⟩ (x.getD 1 undef)).setCell ⟨g, q + 2, none⟩ (x.getD 2 undef)).setCell ⟨g, q + 3, none⟩ (x.getD 3 undef)
theorem Rws.set4 {w : World} {t g m : Nat} {R : Nat → List Value} (h : Rws w t 4 g m R) {i : Nat} (hi : i < m) (hl : (R i).length = 4) (x : List Value) (hx : x.length = 4) : Rws (fou4 w g (i * 4) x) t 4 g m (at1 R i x) := by
  have h0 := h.set1 (o := 0) hi (by omega) hl (x.getD 0 undef)
  have h1 := h0.set1 (i := i) (o := 1) hi (by omega) (by simp only [at1_self, List.length_set]; exact hl) (x.getD 1 undef)
  have h2 := h1.set1 (i := i) (o := 2) hi (by omega) (by simp only [at1_self, List.length_set]; exact hl) (x.getD 2 undef)
  have h3 := h2.set1 (i := i) (o := 3) hi (by omega) (by simp only [at1_self, List.length_set]; exact hl) (x.getD 3 undef)
  simp only [at1_at1, at1_self, Nat.add_zero] at h3
  obtain ⟨a, b, c, d, hR⟩ := list4 _ hl
  obtain ⟨x0, x1, x2, x3, rfl⟩ := list4 _ hx
  rw [hR] at h3
  simp only [List.set_cons_zero, List.set_cons_succ, List.getD_cons_zero, List.getD_cons_succ] at h3
  unfold fou4
  simp only [List.getD_cons_zero, List.getD_cons_succ]
  exact h3
theorem fou4_fr (w : World) (g q : Nat) (x : List Value) : Fr (fun k => k = g) w (fou4 w g q x) := by
  unfold fou4
  refine Fr.setCell (S := fun k => k = g) ?_ _ _ (Or.inl rfl)
  refine Fr.setCell (S := fun k => k = g) ?_ _ _ (Or.inl rfl)
  refine Fr.setCell (S := fun k => k = g) ?_ _ _ (Or.inl rfl)
  refine Fr.setCell (S := fun k => k = g) ?_ _ _ (Or.inl rfl)
  exact Fr.refl _ _

end Go.Proofs.YtjmbfjaahadbhaaGreatDoor
namespace Go.Proofs.YtjmbfjaahadbhaaGreatDoor
open Go.ChangeShapes Go.WideShapes Go.ChangeAt Go.RowKit

theorem addr_off (b off i : Nat) : (⟨b, off, none⟩ : Addr).add i = ⟨b, off + i, none⟩ := by unfold Addr.add; split <;> simp_all
def fld (name : String) (type offset byteOffset : Nat) : Field := { name := name, type := type, offset := offset, embedded := false, tag := "", pkgPath := "", byteOffset := byteOffset }
theorem und71 : Tryz.prog.underlying 43 = some (.struct #[fld "Op" 3 0 0, fld "R" 3 1 8, fld "S" 3 2 16, fld "T" 3 3 24, fld "N" 3 4 32, fld "Args" 25 5 40, fld "Rets" 25 6 64]) := by kernel_rfl
theorem und67 : Tryz.prog.underlying 41 = some (.struct #[fld "Params" 3 0 0, fld "Results" 3 1 8, fld "Vars" 3 2 16, fld "Code" 39 3 24]) := by kernel_rfl
theorem und26 : Tryz.prog.underlying 24 = some (.struct #[fld "Globals" 3 0 0, fld "Funcs" 22 1 8]) := by kernel_rfl
theorem cel64 : Tryz.prog.cellsOf 25 = 1 := by kernel_rfl
theorem cel65 : Tryz.prog.cellsOf 39 = 1 := by kernel_rfl
theorem cel71 : Tryz.prog.cellsOf 43 = 7 := by kernel_rfl
theorem cel67 : Tryz.prog.cellsOf 41 = 4 := by kernel_rfl
theorem cel24 : Tryz.prog.cellsOf 22 = 1 := by kernel_rfl
theorem cel26 : Tryz.prog.cellsOf 24 = 2 := by kernel_rfl
theorem len_cons {n : Nat} : ∀ {cs : List Value}, cs.length = n + 1 → ∃ c r, cs = c :: r ∧ r.length = n
  | c :: r, h => ⟨c, r, rfl, by simpa using h⟩
theorem int_of {H : Type} {enc : TypeId × Value → H} {W : World} {n : Nat} {c : Value} {x : DataW H × List MemPlace} (h : DataW.trod enc Tryz.prog W 0 (fun _ => true) true n 3 [c] = some x) : ∃ z : Int, c = vI z := by
  obtain ⟨z, e, -, -⟩ := DataW.trod_int und3 h
  exact ⟨z, (List.cons.inj e).1⟩
theorem reach_is : reachBytes = 140737488351232 := by decide
/-- All that came in lies within the reach. -/
def Szd {H : Type} (d : DataW H) (t : Nat) : Prop := ∀ q ∈ d.weights Tryz.prog t, q ≤ reachBytes
theorem weightsAll_mem {H : Type} {P : Program} {e : TypeId} {d : DataW H} {n : Nat} (hn : n ∈ d.weights P e) : ∀ {ds : List (DataW H)}, d ∈ ds → n ∈ DataW.weightsAll P e ds
  | a :: r, h => by
    simp only [DataW.weightsAll, List.mem_append]
    rcases List.mem_cons.1 h with rfl | h
    · exact Or.inl hn
    · exact Or.inr (weightsAll_mem hn h)

/-- A slice that came in, element by element, within the reach. -/
theorem rows_sz {H : Type} {enc : TypeId × Value → H} {W : World} {n t e sz by' : Nat} {c : Value} {x : DataW H × List MemPlace} (ht : Tryz.prog.underlying t = some (.slice e)) (hsz : Tryz.prog.cellsOf e = sz) (hby : Tryz.prog.bytesOf e = by') (hs0 : 0 < sz)
    (h : DataW.trod enc Tryz.prog W 0 (fun _ => true) true n t [c] = some x) (hx : Szd x.1 t) {α : Type} (dflt : α) (Pr : α → List Value → Prop)
    (hel : ∀ n cs (y : DataW H × List MemPlace), DataW.trod enc Tryz.prog W 0 (fun _ => true) true n e cs = some y → Szd y.1 e → ∃ q, Pr q cs) :
    ∃ l : List α, l.length * by' ≤ reachBytes ∧ ∃ a cp, c = .slice a l.length cp ∧ (l ≠ [] → ∃ k o, a = some ⟨k, o, none⟩ ∧ k < W.heap.size ∧ ∀ j (h : j < l.length), ∃ cs, Pr l[j] cs ∧ ∀ i, i < sz → W.cell? ⟨k, o + j * sz + i, none⟩ = cs[i]?) := by
  rcases Deep.open_slice ht h with ⟨hcs, hx⟩ | ⟨a, len, cap, m, k, D, Pl, hcs, _, hl, hm, hmm, hxx, hc⟩
  · have hcs := (List.cons.inj hcs).1
    subst hcs
    exact ⟨[], by simp, none, 0, rfl, fun h => absurd rfl h⟩
  · have hcs := (List.cons.inj hcs).1
    subst hcs
    have hmc : m = cap := by simpa using hmm
    subst hmc
    have hw : ∀ q, q ∈ (((((List.range len).map D).length + ((List.range (m - len)).map fun j => D (len + j)).length) * by') :: DataW.weightsAll Tryz.prog e ((List.range len).map D)) → q ≤ reachBytes := by
      intro q hq
      apply hx
      rw [hxx]
      simp only [DataW.weights, ht, hby]
      rcases List.mem_cons.1 hq with rfl | hq
      · exact List.mem_cons_self
      · exact List.mem_cons_of_mem _ (List.mem_append_left _ hq)
    have hlw : len * by' ≤ reachBytes := by
      have := hw _ List.mem_cons_self
      simp only [List.length_map, List.length_range] at this
      exact Nat.le_trans (Nat.mul_le_mul_right by' (by omega)) this
    have hv : ∀ i, ∃ q : α × List Value, i < len → Pr q.1 q.2 ∧ q.2.length = sz ∧ ∀ j, j < sz → W.cell? ((a.add (i * sz)).add j) = q.2[j]? := by
      intro i
      by_cases hi : i < len
      · obtain ⟨cs', r0, r1⟩ := hc i (by omega)
        rw [hsz] at r0
        obtain ⟨-, hcl, hcell⟩ := World.cells?_some r0
        obtain ⟨q, hq⟩ := hel _ _ _ r1 (fun q hq => hw q (List.mem_cons_of_mem _ (weightsAll_mem hq (List.mem_map.2 ⟨i, List.mem_range.2 hi, rfl⟩))))
        exact ⟨(q, cs'), fun _ => ⟨hq, hcl, hcell⟩⟩
      · exact ⟨(dflt, []), fun h => absurd h hi⟩
    obtain ⟨Q, hQ⟩ : ∃ Q : Nat → α × List Value, ∀ i, i < len → Pr (Q i).1 (Q i).2 ∧ (Q i).2.length = sz ∧ ∀ j, j < sz → W.cell? ((a.add (i * sz)).add j) = (Q i).2[j]? :=
      ⟨fun i => (hv i).choose, fun i => (hv i).choose_spec⟩
    have hlen : ((List.range len).map fun i => (Q i).1).length = len := by simp
    refine ⟨(List.range len).map fun i => (Q i).1, by rw [hlen]; exact hlw, some a, m, by rw [hlen], fun hne => ?_⟩
    obtain ⟨b, off, spot⟩ := a
    have hpos : 0 < len := by
      rcases Nat.eq_zero_or_pos len with h0 | h0
      · exfalso; apply hne; rw [h0]; rfl
      · exact h0
    have h00 : W.cell? ((({ block := b, off := off, spot := spot } : Addr).add (0 * sz)).add 0) = some ((Q 0).2[0]'(by rw [(hQ 0 hpos).2.1]; exact hs0)) := by
      rw [(hQ 0 hpos).2.2 0 hs0]; exact List.getElem?_eq_getElem _
    have hspot : spot = none := by
      have := World.cell?_spot h00
      simpa [Addr.add] using this
    subst hspot
    simp only [addr_off] at hQ h00
    refine ⟨b, off, rfl, cell_lt h00, fun j hj => ?_⟩
    have hj' : j < len := by simpa using hj
    refine ⟨(Q j).2, ?_, (hQ j hj').2.2⟩
    have := (hQ j hj').1
    simpa using this

theorem byt3 : Tryz.prog.bytesOf 3 = 8 := by kernel_rfl
theorem byt71 : Tryz.prog.bytesOf 43 = 88 := by kernel_rfl
theorem byt67 : Tryz.prog.bytesOf 41 = 48 := by kernel_rfl

theorem ints_sz {H : Type} {enc : TypeId × Value → H} {W : World} {n : Nat} {c : Value} {x : DataW H × List MemPlace} (h : DataW.trod enc Tryz.prog W 0 (fun _ => true) true n 25 [c] = some x) (hx : Szd x.1 25) : ∃ l, IA W c l ∧ l.length ≤ 17592186043904 := by
  obtain ⟨l, hl, a, cp, e, hh⟩ := rows_sz under64 cel3 byt3 (by omega) h hx (0 : Int) (fun q cs => cs = [vI q]) (fun n cs y hy _ => by
    obtain ⟨z, e, -, -⟩ := DataW.trod_int und3 hy
    exact ⟨z, e⟩)
  have hr := reach_is
  refine ⟨l, ⟨a, cp, e, fun hne => ?_⟩, by omega⟩
  obtain ⟨k, o, ea, hk, hc⟩ := hh hne
  refine ⟨k, o, ea, hk, fun j hj => ?_⟩
  obtain ⟨cs, rfl, h1⟩ := hc j hj
  have := h1 0 (by omega)
  rw [Nat.mul_one] at this
  exact this

def IsIz (W : World) (c : PI) (cs : List Value) : Prop := ∃ av rv, cs = [vI c.op, vI c.r, vI c.s, vI c.t, vI c.n, av, rv] ∧ IA W av c.args ∧ IA W rv c.rets ∧ c.args.length ≤ 17592186043904 ∧ c.rets.length ≤ 17592186043904

theorem instr_sz {H : Type} {enc : TypeId × Value → H} {W : World} {n : Nat} {cs : List Value} {x : DataW H × List MemPlace} (h : DataW.trod enc Tryz.prog W 0 (fun _ => true) true n 43 cs = some x) (hx : Szd x.1 43) : ∃ c : PI, IsIz W c cs := by
  obtain ⟨xs, k, -, rfl, hcl, hxl, hf⟩ := DataW.trod_struct und71 h
  rw [cel71] at hcl
  have hxl : xs.length = 7 := hxl
  obtain ⟨c0, r0, rfl, hl1⟩ := len_cons hcl
  obtain ⟨c1, r1, rfl, hl2⟩ := len_cons hl1
  obtain ⟨c2, r2, rfl, hl3⟩ := len_cons hl2
  obtain ⟨c3, r3, rfl, hl4⟩ := len_cons hl3
  obtain ⟨c4, r4, rfl, hl5⟩ := len_cons hl4
  obtain ⟨c5, r5, rfl, hl6⟩ := len_cons hl5
  obtain ⟨c6, r6, rfl, hl7⟩ := len_cons hl6
  obtain rfl := List.length_eq_zero_iff.1 hl7
  have g0 := hf 0 (fld "Op" 3 0 0) rfl
  have g1 := hf 1 (fld "R" 3 1 8) rfl
  have g2 := hf 2 (fld "S" 3 2 16) rfl
  have g3 := hf 3 (fld "T" 3 3 24) rfl
  have g4 := hf 4 (fld "N" 3 4 32) rfl
  have g5 := hf 5 (fld "Args" 25 5 40) rfl
  have g6 := hf 6 (fld "Rets" 25 6 64) rfl
  have ee : ∀ i (hi : i < 7), xs[i]? = some (xs[i]'(by omega)) := fun i hi => List.getElem?_eq_getElem (by omega)
  rw [ee 0 (by omega)] at g0
  rw [ee 1 (by omega)] at g1
  rw [ee 2 (by omega)] at g2
  rw [ee 3 (by omega)] at g3
  rw [ee 4 (by omega)] at g4
  rw [ee 5 (by omega)] at g5
  rw [ee 6 (by omega)] at g6
  simp only [fld, cel3, cel64, List.drop_zero, List.drop_succ_cons, List.take_succ_cons, List.take_zero] at g0 g1 g2 g3 g4 g5 g6
  obtain ⟨z0, rfl⟩ := int_of g0
  obtain ⟨z1, rfl⟩ := int_of g1
  obtain ⟨z2, rfl⟩ := int_of g2
  obtain ⟨z3, rfl⟩ := int_of g3
  obtain ⟨z4, rfl⟩ := int_of g4
  have bb : ∀ i (hi : i < 7) u, (#[fld "Op" 3 0 0, fld "R" 3 1 8, fld "S" 3 2 16, fld "T" 3 3 24, fld "N" 3 4 32, fld "Args" 25 5 40, fld "Rets" 25 6 64].toList.map (·.type))[i]? = some u → Szd (xs[i]'(by omega)).1 u := fun i hi u hu q hq => by
    apply hx
    simp only [DataW.weights, und71]
    exact DataW.weights_mem_each (j := i) (t := u) (d := (xs[i]'(by omega)).1) hu (by rw [List.getElem?_map, ee i hi]; rfl) q hq
  obtain ⟨la, hA, hla⟩ := ints_sz g5 (bb 5 (by omega) 25 rfl)
  obtain ⟨lr, hR, hlr⟩ := ints_sz g6 (bb 6 (by omega) 25 rfl)
  exact ⟨⟨z0, z1, z2, z3, z4, la, lr⟩, c5, c6, rfl, hA, hR, hla, hlr⟩

theorem code_sz {H : Type} {enc : TypeId × Value → H} {W : World} {n : Nat} {c : Value} {x : DataW H × List MemPlace} (h : DataW.trod enc Tryz.prog W 0 (fun _ => true) true n 39 [c] = some x) (hx : Szd x.1 39) : ∃ l, CA W c l ∧ FineC l := by
  obtain ⟨l, hl, a, cp, e, hh⟩ := rows_sz under65 cel71 byt71 (by omega) h hx (⟨0, 0, 0, 0, 0, [], []⟩ : PI) (IsIz W) (fun n cs y hy hs => instr_sz hy hs)
  have hr := reach_is
  refine ⟨l, ⟨a, cp, e, fun hne => ?_⟩, by omega, fun c hc => ?_⟩
  · obtain ⟨k, o, ea, hk, hc⟩ := hh hne
    refine ⟨k, o, ea, hk, fun j hj => ?_⟩
    obtain ⟨cs, ⟨av, rv, rfl, h2, h3, -⟩, h1⟩ := hc j hj
    exact ⟨av, rv, h1 0 (by omega), h1 1 (by omega), h1 2 (by omega), h1 3 (by omega), h1 4 (by omega), h1 5 (by omega), h1 6 (by omega), h2, h3⟩
  · obtain ⟨j, hj, rfl⟩ := List.getElem_of_mem hc
    obtain ⟨k, o, ea, hk, hcc⟩ := hh (by intro e; simp [e] at hj)
    obtain ⟨cs, ⟨av, rv, -, -, -, h4, h5⟩, -⟩ := hcc j hj
    exact ⟨h4, h5⟩

def IsFz (W : World) (f : PF) (cs : List Value) : Prop := ∃ cv, cs = [vI f.P, vI f.R, vI f.V, cv] ∧ CA W cv f.code ∧ FineC f.code

theorem func_sz {H : Type} {enc : TypeId × Value → H} {W : World} {n : Nat} {cs : List Value} {x : DataW H × List MemPlace} (h : DataW.trod enc Tryz.prog W 0 (fun _ => true) true n 41 cs = some x) (hx : Szd x.1 41) : ∃ f : PF, IsFz W f cs := by
  obtain ⟨xs, k, -, rfl, hcl, hxl, hf⟩ := DataW.trod_struct und67 h
  rw [cel67] at hcl
  have hxl : xs.length = 4 := hxl
  obtain ⟨c0, r0, rfl, hl1⟩ := len_cons hcl
  obtain ⟨c1, r1, rfl, hl2⟩ := len_cons hl1
  obtain ⟨c2, r2, rfl, hl3⟩ := len_cons hl2
  obtain ⟨c3, r3, rfl, hl4⟩ := len_cons hl3
  obtain rfl := List.length_eq_zero_iff.1 hl4
  have g0 := hf 0 (fld "Params" 3 0 0) rfl
  have g1 := hf 1 (fld "Results" 3 1 8) rfl
  have g2 := hf 2 (fld "Vars" 3 2 16) rfl
  have g3 := hf 3 (fld "Code" 39 3 24) rfl
  have ee : ∀ i (hi : i < 4), xs[i]? = some (xs[i]'(by omega)) := fun i hi => List.getElem?_eq_getElem (by omega)
  rw [ee 0 (by omega)] at g0
  rw [ee 1 (by omega)] at g1
  rw [ee 2 (by omega)] at g2
  rw [ee 3 (by omega)] at g3
  simp only [fld, cel3, cel65, List.drop_zero, List.drop_succ_cons, List.take_succ_cons, List.take_zero] at g0 g1 g2 g3
  obtain ⟨z0, rfl⟩ := int_of g0
  obtain ⟨z1, rfl⟩ := int_of g1
  obtain ⟨z2, rfl⟩ := int_of g2
  have bb : Szd (xs[3]'(by omega)).1 39 := fun q hq => by
    apply hx
    simp only [DataW.weights, und67]
    exact DataW.weights_mem_each (j := 3) (t := 39) (d := (xs[3]'(by omega)).1) rfl (by rw [List.getElem?_map, ee 3 (by omega)]; rfl) q hq
  obtain ⟨l, hC, hl⟩ := code_sz g3 bb
  exact ⟨⟨z0, z1, z2, l⟩, c3, rfl, hC, hl⟩

theorem funcs_sz {H : Type} {enc : TypeId × Value → H} {W : World} {n : Nat} {c : Value} {x : DataW H × List MemPlace} (h : DataW.trod enc Tryz.prog W 0 (fun _ => true) true n 22 [c] = some x) (hx : Szd x.1 22) : ∃ l, FA W c l ∧ FineP l := by
  obtain ⟨l, hl, a, cp, e, hh⟩ := rows_sz under24 cel67 byt67 (by omega) h hx (⟨0, 0, 0, []⟩ : PF) (IsFz W) (fun n cs y hy hs => func_sz hy hs)
  have hr := reach_is
  refine ⟨l, ⟨a, cp, e, fun hne => ?_⟩, by omega, fun c hc => ?_⟩
  · obtain ⟨k, o, ea, hk, hc⟩ := hh hne
    refine ⟨k, o, ea, hk, fun j hj => ?_⟩
    obtain ⟨cs, ⟨cv, rfl, h2, -⟩, h1⟩ := hc j hj
    exact ⟨cv, h1 0 (by omega), h1 1 (by omega), h1 2 (by omega), h1 3 (by omega), h2⟩
  · obtain ⟨j, hj, rfl⟩ := List.getElem_of_mem hc
    obtain ⟨k, o, ea, hk, hcc⟩ := hh (by intro e; simp [e] at hj)
    obtain ⟨cs, ⟨cv, -, -, h4⟩, -⟩ := hcc j hj
    exact h4

/-- A program that came in. -/
theorem program_sz {H : Type} {enc : TypeId × Value → H} {W : World} {n : Nat} {cs : List Value} {x : DataW H × List MemPlace} (h : DataW.trod enc Tryz.prog W 0 (fun _ => true) true n 24 cs = some x) (hx : Szd x.1 24) : ∃ (G : Int) (fv : Value) (fs : List PF), cs = [vI G, fv] ∧ FA W fv fs ∧ FineP fs := by
  obtain ⟨xs, k, -, rfl, hcl, hxl, hf⟩ := DataW.trod_struct und26 h
  rw [cel26] at hcl
  have hxl : xs.length = 2 := hxl
  obtain ⟨c0, r0, rfl, hl1⟩ := len_cons hcl
  obtain ⟨c1, r1, rfl, hl2⟩ := len_cons hl1
  obtain rfl := List.length_eq_zero_iff.1 hl2
  have g0 := hf 0 (fld "Globals" 3 0 0) rfl
  have g1 := hf 1 (fld "Funcs" 22 1 8) rfl
  have ee : ∀ i (hi : i < 2), xs[i]? = some (xs[i]'(by omega)) := fun i hi => List.getElem?_eq_getElem (by omega)
  rw [ee 0 (by omega)] at g0
  rw [ee 1 (by omega)] at g1
  simp only [fld, cel3, cel24, List.drop_zero, List.drop_succ_cons, List.take_succ_cons, List.take_zero] at g0 g1
  obtain ⟨z0, rfl⟩ := int_of g0
  have bb : Szd (xs[1]'(by omega)).1 22 := fun q hq => by
    apply hx
    simp only [DataW.weights, und26]
    exact DataW.weights_mem_each (j := 1) (t := 22) (d := (xs[1]'(by omega)).1) rfl (by rw [List.getElem?_map, ee 1 (by omega)]; rfl) q hq
  obtain ⟨l, hC, hl⟩ := funcs_sz g1 bb
  exact ⟨z0, c1, l, rfl, hC, hl⟩

end Go.Proofs.YtjmbfjaahadbhaaGreatDoor
