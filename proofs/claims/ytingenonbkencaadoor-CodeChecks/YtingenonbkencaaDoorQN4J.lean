import Derived.Test.YtingenonbkencaaDoorQE6J
import Derived.Test.YtingenonbkencaaDoorQG1J
namespace Go.Proofs.YtingenonbkencaaDoor
open Go.RowKit (wrap32 wrap64)
set_option linter.unusedVariables false
set_option linter.unusedSimpArgs false

/-- An instruction, a function. -/
structure PI where
  op : Int
  r : Int
  s : Int
  t : Int
  n : Int
  args : List Int
  rets : List Int
structure PF where
  P : Int
  R : Int
  V : Int
  code : List PI

/-- Instructions that lie in a row, none of them in block b. -/
def CL (b : Nat) (w : World) (v : Value) (c : List PI) : Prop :=
  c.length ≤ 1000000000000000 ∧ ∃ a cp, v = .slice a c.length cp ∧ (c ≠ [] → ∃ k o, a = some ⟨k, o, none⟩ ∧ k < w.heap.size ∧ k ≠ b ∧ ∀ j (h : j < c.length), ∃ av rv,
    w.cell? ⟨k, o + j * 7, none⟩ = some (vI c[j].op) ∧ w.cell? ⟨k, o + j * 7 + 1, none⟩ = some (vI c[j].r) ∧ w.cell? ⟨k, o + j * 7 + 2, none⟩ = some (vI c[j].s) ∧ w.cell? ⟨k, o + j * 7 + 3, none⟩ = some (vI c[j].t) ∧ w.cell? ⟨k, o + j * 7 + 4, none⟩ = some (vI c[j].n) ∧
    w.cell? ⟨k, o + j * 7 + 5, none⟩ = some av ∧ w.cell? ⟨k, o + j * 7 + 6, none⟩ = some rv ∧ IL b w av c[j].args ∧ IL b w rv c[j].rets ∧ c[j].args.length ≤ 1000000000000000 ∧ c[j].rets.length ≤ 1000000000000000)

/-- Functions. -/
def FL (b : Nat) (w : World) (v : Value) (fs : List PF) : Prop :=
  fs.length ≤ 1000000000000000 ∧ ∃ a cp, v = .slice a fs.length cp ∧ (fs ≠ [] → ∃ k o, a = some ⟨k, o, none⟩ ∧ k < w.heap.size ∧ k ≠ b ∧ ∀ j (h : j < fs.length), ∃ cv,
    w.cell? ⟨k, o + j * 4, none⟩ = some (vI fs[j].P) ∧ w.cell? ⟨k, o + j * 4 + 1, none⟩ = some (vI fs[j].R) ∧ w.cell? ⟨k, o + j * 4 + 2, none⟩ = some (vI fs[j].V) ∧ w.cell? ⟨k, o + j * 4 + 3, none⟩ = some cv ∧ CL b w cv fs[j].code)

theorem CL.fr {S : Nat → Prop} {b : Nat} {w w' : World} {v : Value} {c : List PI} (h : CL b w v c) (f : Fr S w w') (hS : ∀ k, S k → k = b) : CL b w' v c := by
  obtain ⟨h0, a, cp, e, h⟩ := h
  refine ⟨h0, a, cp, e, fun hne => ?_⟩
  obtain ⟨k, o, e, hk, hb, hc⟩ := h hne
  refine ⟨k, o, e, Nat.lt_of_lt_of_le hk f.size, hb, fun j hj => ?_⟩
  obtain ⟨av, rv, h1, h2, h3, h4, h5, h6, h7, h8, h9, h10⟩ := hc j hj
  have g : ∀ o, w'.cell? ⟨k, o, none⟩ = w.cell? ⟨k, o, none⟩ := fun o => f.cell hk (fun h => hb (hS k h))
  exact ⟨av, rv, (g _).trans h1, (g _).trans h2, (g _).trans h3, (g _).trans h4, (g _).trans h5, (g _).trans h6, (g _).trans h7, h8.fr f hS, h9.fr f hS, h10⟩

theorem FL.fr {S : Nat → Prop} {b : Nat} {w w' : World} {v : Value} {fs : List PF} (h : FL b w v fs) (f : Fr S w w') (hS : ∀ k, S k → k = b) : FL b w' v fs := by
  obtain ⟨h0, a, cp, e, h⟩ := h
  refine ⟨h0, a, cp, e, fun hne => ?_⟩
  obtain ⟨k, o, e, hk, hb, hc⟩ := h hne
  refine ⟨k, o, e, Nat.lt_of_lt_of_le hk f.size, hb, fun j hj => ?_⟩
  obtain ⟨cv, h1, h2, h3, h4, h5⟩ := hc j hj
  have g : ∀ o, w'.cell? ⟨k, o, none⟩ = w.cell? ⟨k, o, none⟩ := fun o => f.cell hk (fun h => hb (hS k h))
  exact ⟨cv, (g _).trans h1, (g _).trans h2, (g _).trans h3, (g _).trans h4, h5.fr f hS⟩

/-! ### without addresses -/
def SimX (r r' : X (WS × Unit)) : Prop := match r, r' with
  | .ok y, .ok y' => y.1.bare = y'.1.bare
  | .error z, .error z' => z = z'
  | _, _ => False

theorem SimX.then {c c' : X (WS × Unit)} {p p' : WS × Unit → X (WS × Unit)} (h : SimX c c') (hp : ∀ y y', y.1.bare = y'.1.bare → SimX (p y) (p' y')) : SimX (thenX c p) (thenX c' p') := by
  cases c with
  | ok y => cases c' with
    | ok y' => exact hp y y' h
    | error z => exact h.elim
  | error z => cases c' with
    | ok y' => exact h.elim
    | error z' => exact h

theorem SimX.cast {r r' q q' : X (WS × Unit)} (h1 : r = q) (h2 : r' = q') (h : SimX q q') : SimX r r' := by
  subst h1; subst h2; exact h

theorem bare_at {s s' : WS} (h : s.bare = s'.bare) : s.at' = s'.at' := (congrArg WS.at' h : s.bare.at' = s'.bare.at')
theorem bare_with {s s' : WS} (h : s.bare = s'.bare) (a : Int) : ({ s with at' := a } : WS).bare = ({ s' with at' := a } : WS).bare := (congrArg (fun t : WS => ({ t with at' := a } : WS)) h : ({ s.bare with at' := a } : WS) = { s'.bare with at' := a })

theorem L_ask {b : Nat} (o size : Nat) (c : WS → Bool) (er : Int) (s : WS) (u : Unit) : askX (leaving b) o size c er (s, u) = if c { s with at' := adv s.at' size } then .ok ({ s with at' := adv s.at' size }, u) else .error (er, s.at') := by
  unfold askX
  split
  · rename_i y hy
    have hy2 := Except.ok.inj (hy.symm.trans (L_next o size s u))
    subst hy2
    rfl
  · rename_i z hz
    cases hz.symm.trans (L_next o size s u)

theorem sim_next {b : Nat} (o size : Nat) (x x' : WS × Unit) (h : x.1.bare = x'.1.bare) : SimX (nextX (leaving b) o size x) (nextX (leaving b) o size x') := by
  obtain ⟨s, u⟩ := x
  obtain ⟨s', u'⟩ := x'
  have h : s.bare = s'.bare := h
  refine SimX.cast (L_next o size s u) (L_next o size s' u') ?_
  show _ = _
  rw [bare_at h]
  exact bare_with h _

theorem sim_ask {b : Nat} (o size : Nat) (c : WS → Bool) (hc : ∀ s, c s.bare = c s) (er : Int) (x x' : WS × Unit) (h : x.1.bare = x'.1.bare) : SimX (askX (leaving b) o size c er x) (askX (leaving b) o size c er x') := by
  obtain ⟨s, u⟩ := x
  obtain ⟨s', u'⟩ := x'
  have h : s.bare = s'.bare := h
  have hb := bare_with h (adv s.at' size)
  have e : c { s with at' := adv s.at' size } = c { s' with at' := adv s'.at' size } := by rw [← hc, ← hc { s' with at' := adv s'.at' size }, ← bare_at h, hb]
  refine SimX.cast (L_ask o size c er s u) (L_ask o size c er s' u') ?_
  rw [e]
  split
  · show _ = _
    rw [← bare_at h]
    exact hb
  · exact congrArg (fun z => (er, z)) (bare_at h)

theorem sim_loc {b : Nat} (n p : Int) (x x' : WS × Unit) (h : x.1.bare = x'.1.bare) : SimX (locX (leaving b) n p x) (locX (leaving b) n p x') := by
  have e : x.1.locs = x'.1.locs := (congrArg WS.locs h : x.1.bare.locs = x'.1.bare.locs)
  unfold locX
  by_cases hc : wrap64 (x.1.locs + n) ≤ 1048576
  · rw [if_pos hc, if_pos (by rw [← e]; exact hc)]
    show _ = _
    rw [e]
    exact (congrArg (fun t : WS => ({ t with locs := wrap64 (x'.1.locs + n) } : WS)) h : ({ x.1.bare with locs := wrap64 (x'.1.locs + n) } : WS) = _)
  · rw [if_neg hc, if_neg (by rw [← e]; exact hc)]
    rfl

theorem SimX.ite {p : Prop} [Decidable p] {a a' c c' : X (WS × Unit)} (h1 : p → SimX a a') (h2 : ¬ p → SimX c c') : SimX (if p then a else c) (if p then a' else c') := by
  by_cases h : p
  · exact SimX.cast (if_pos h) (if_pos h) (h1 h)
  · exact SimX.cast (if_neg h) (if_neg h) (h2 h)

theorem sim_front {b : Nat} (ends makes nb : Bool) (i : Nat) (p p' : Int) (hp : p = p') (x x' : WS × Unit) (h : x.1.bare = x'.1.bare) : SimX (frontOk (leaving b) ends makes nb i p x) (frontOk (leaving b) ends makes nb i p' x') := by
  subst hp
  have e : x.1.len = x'.1.len := (congrArg WS.len h : x.1.bare.len = x'.1.bare.len)
  unfold frontOk
  rw [e]
  refine SimX.ite (fun _ => rfl) (fun _ => SimX.ite (fun _ => rfl) (fun _ => SimX.ite (fun _ => sim_loc 1 p x x' h) (fun _ => h)))

theorem sim_vars : ∀ (l : List Int) (x x' : WS × Unit), x.1.bare = x'.1.bare → SimX (varsL l x) (varsL l x')
  | [], _, _, h => h
  | v :: r, x, x', h => by
    refine SimX.then (p := varsL r) (p' := varsL r) ?_ (fun y y' hy => sim_vars r y y' hy)
    have e : x.1.fV = x'.1.fV := (congrArg WS.fV h : x.1.bare.fV = x'.1.bare.fV)
    unfold oneL
    rw [e]
    split
    · show _ = _
      rw [bare_at h]
      exact bare_with h _
    · exact congrArg (fun z => ((13 : Int), z)) (bare_at h)

theorem sim_list (n : Nat) (l : List Int) (x x' : WS × Unit) (h : x.1.bare = x'.1.bare) : SimX (listL n l x) (listL n l x') := by
  unfold listL
  split
  · refine sim_vars l _ _ ?_
    show _ = _
    rw [bare_at h]
    exact (congrArg (fun t : WS => ({ t with count := l.length, at' := adv x'.1.at' 1 } : WS)) h : ({ x.1.bare with count := l.length, at' := adv x'.1.at' 1 } : WS) = _)
  · exact congrArg (fun z => ((15 : Int), z)) (bare_at h)

theorem sim_parts {b : Nat} (op : Nat) (c c' : X (WS × Unit)) (h : SimX c c') : SimX (partsX (leaving b) op c) (partsX (leaving b) op c') := by
  have hv : ∀ o (y y' : WS × Unit), y.1.bare = y'.1.bare → SimX (varPart (leaving b) o y) (varPart (leaving b) o y') := fun o y y' hy => sim_ask _ _ _ (fun s => by
    show varOk s.bare.fV (s.bare.get o) = varOk s.fV (s.get o)
    unfold WS.get
    rfl) _ y y' hy
  have hn : ∀ (y y' : WS × Unit), y.1.bare = y'.1.bare → SimX (intPart (leaving b) y) (intPart (leaving b) y') := fun y y' hy => sim_next _ _ y y' hy
  have hf : ∀ (y y' : WS × Unit), y.1.bare = y'.1.bare → SimX (fieldsPart (leaving b) y) (fieldsPart (leaving b) y') := fun y y' hy => sim_ask _ _ _ (fun s => rfl) _ y y' hy
  have hd : ∀ (y y' : WS × Unit), y.1.bare = y'.1.bare → SimX (fieldPart (leaving b) y) (fieldPart (leaving b) y') := fun y y' hy => sim_ask _ _ _ (fun s => rfl) _ y y' hy
  have hg : ∀ (y y' : WS × Unit), y.1.bare = y'.1.bare → SimX (globalPart (leaving b) y) (globalPart (leaving b) y') := fun y y' hy => sim_ask _ _ _ (fun s => rfl) _ y y' hy
  have ht : ∀ (y y' : WS × Unit), y.1.bare = y'.1.bare → SimX (targetPart (leaving b) y) (targetPart (leaving b) y') := fun y y' hy => sim_ask _ _ _ (fun s => rfl) _ y y' hy
  match op with
  | 1 => exact (h.then (hv 155)).then hn
  | 2 => exact (h.then (hv 155)).then (hv 156)
  | 3 => exact ((h.then (hv 155)).then (hv 156)).then (hv 157)
  | 4 => exact ((h.then (hv 155)).then (hv 156)).then (hv 157)
  | 5 => exact (h.then (hv 155)).then (hv 156)
  | 6 => exact (h.then (hv 155)).then hf
  | 7 => exact ((h.then (hv 155)).then (hv 156)).then hd
  | 8 => exact ((h.then (hv 155)).then (hv 156)).then hd
  | 9 => exact (h.then (hv 155)).then hg
  | 10 => exact (h.then (hv 156)).then hg
  | 12 => exact h.then (hv 156)
  | 13 => exact h.then ht
  | 14 => exact (h.then (hv 156)).then ht
  | 16 => exact h.then (hv 155)
  | 17 => exact ((h.then (hv 155)).then (hv 156)).then (hv 157)
  | 0 => exact h
  | 11 => exact h
  | 15 => exact h
  | n + 18 => exact h

theorem nbK_bare (k : Nat) (s s' : WS) (la lr : Nat) (h : s.bare = s'.bare) : nbK k s la lr = nbK k s' la lr := by
  have e1 : s.r = s'.r := (congrArg WS.r h : s.bare.r = s'.bare.r)
  have e2 : s.s = s'.s := (congrArg WS.s h : s.bare.s = s'.bare.s)
  have e3 : s.t = s'.t := (congrArg WS.t h : s.bare.t = s'.bare.t)
  have e4 : s.n = s'.n := (congrArg WS.n h : s.bare.n = s'.bare.n)
  unfold nbK
  rw [e1, e2, e3, e4]

theorem instrL_15 {b : Nat} (heads : List (Nat × Nat)) (fR i : Nat) (la lr : List Int) (s : WS) (h : s.op = 15) : instrL (b := b) heads fR i la lr s = retL fR la (frontOk (leaving b) true false (nbK 15 s la.length lr.length) i s.at' ({ s with at' := adv s.at' 1 }, ())) := by
  unfold instrL
  rw [if_pos (by omega), if_pos h]
theorem instrL_11 {b : Nat} (heads : List (Nat × Nat)) (fR i : Nat) (la lr : List Int) (s : WS) (h : s.op = 11) : instrL (b := b) heads fR i la lr s = callL heads la lr (frontOk (leaving b) false false (nbK 11 s la.length lr.length) i s.at' ({ s with at' := adv s.at' 1 }, ())) := by
  unfold instrL
  rw [if_pos (by omega), if_neg (by omega), if_pos h]
theorem instrL_k {b : Nat} (heads : List (Nat × Nat)) (fR i : Nat) (la lr : List Int) (s : WS) (h : 1 ≤ s.op ∧ s.op ≤ 17) (h1 : ¬ s.op = 15) (h2 : ¬ s.op = 11) : instrL (b := b) heads fR i la lr s = partsX (leaving b) s.op.toNat (frontOk (leaving b) (s.op == 13) (s.op == 6) (nbK s.op.toNat s la.length lr.length) i s.at' ({ s with at' := adv s.at' 1 }, ())) := by
  unfold instrL
  rw [if_pos h, if_neg h1, if_neg h2]
theorem instrL_no {b : Nat} (heads : List (Nat × Nat)) (fR i : Nat) (la lr : List Int) (s : WS) (h : ¬ (1 ≤ s.op ∧ s.op ≤ 17)) : instrL (b := b) heads fR i la lr s = .error (12, s.at') := by
  unfold instrL
  rw [if_neg h]

theorem sim_instr {b : Nat} (heads : List (Nat × Nat)) (fR i : Nat) (la lr : List Int) (s s' : WS) (h : s.bare = s'.bare) : SimX (instrL (b := b) heads fR i la lr s) (instrL (b := b) heads fR i la lr s') := by
  have e : s.op = s'.op := (congrArg WS.op h : s.bare.op = s'.bare.op)
  have ea := bare_at h
  have hf : ∀ ends makes k, SimX (frontOk (leaving b) ends makes (nbK k s la.length lr.length) i s.at' ({ s with at' := adv s.at' 1 }, ())) (frontOk (leaving b) ends makes (nbK k s' la.length lr.length) i s'.at' ({ s' with at' := adv s'.at' 1 }, ())) := fun ends makes k => by
    rw [nbK_bare k s s' _ _ h]
    refine sim_front ends makes _ i _ _ ea _ _ ?_
    show _ = _
    rw [← ea]
    exact bare_with h _
  by_cases h1 : 1 ≤ s.op ∧ s.op ≤ 17
  · have h1' : 1 ≤ s'.op ∧ s'.op ≤ 17 := by rw [← e]; exact h1
    by_cases h15 : s.op = 15
    · refine SimX.cast (instrL_15 heads fR i la lr s h15) (instrL_15 heads fR i la lr s' (e ▸ h15)) ?_
      exact SimX.then (hf true false 15) (fun y y' hy => sim_list fR la y y' hy)
    · have h15' : ¬ s'.op = 15 := fun k => h15 (e.trans k)
      by_cases h11 : s.op = 11
      · refine SimX.cast (instrL_11 heads fR i la lr s h11) (instrL_11 heads fR i la lr s' (e ▸ h11)) ?_
        unfold callL
        refine SimX.then (SimX.then (hf false false 11) (fun y y' hy => sim_ask _ _ _ (fun s => rfl) _ y y' hy)) (fun y y' hy => ?_)
        have en : y.1.n = y'.1.n := (congrArg WS.n hy : y.1.bare.n = y'.1.bare.n)
        rw [en]
        exact SimX.then (sim_list _ la y y' hy) (fun z z' hz => sim_list _ lr z z' hz)
      · have h11' : ¬ s'.op = 11 := fun k => h11 (e.trans k)
        refine SimX.cast (instrL_k heads fR i la lr s h1 h15 h11) (instrL_k heads fR i la lr s' h1' h15' h11') ?_
        have h2 := sim_parts (b := b) s.op.toNat _ _ (hf (s.op == 13) (s.op == 6) s.op.toNat)
        have h3 : partsX (leaving b) s.op.toNat (frontOk (leaving b) (s.op == 13) (s.op == 6) (nbK s.op.toNat s' la.length lr.length) i s'.at' ({ s' with at' := adv s'.at' 1 }, ())) = partsX (leaving b) s'.op.toNat (frontOk (leaving b) (s'.op == 13) (s'.op == 6) (nbK s'.op.toNat s' la.length lr.length) i s'.at' ({ s' with at' := adv s'.at' 1 }, ())) := by rw [e]
        exact SimX.cast rfl h3.symm h2
  · refine SimX.cast (instrL_no heads fR i la lr s h1) (instrL_no heads fR i la lr s' (by rw [← e]; exact h1)) ?_
    exact congrArg (fun z => ((12 : Int), z)) ea

theorem sim_head {b : Nat} (x x' : WS × Unit) (h : x.1.bare = x'.1.bare) : SimX (headX (leaving b) x) (headX (leaving b) x') := by
  refine SimX.cast (headX_then (leaving b) x) (headX_then (leaving b) x') ?_
  refine SimX.then (sim_next 149 1 x x' h) (fun y1 y1' h1 => ?_)
  refine SimX.then (sim_next 150 1 y1 y1' h1) (fun y2 y2' h2 => ?_)
  refine SimX.then (sim_next 151 1 y2 y2' h2) (fun y3 y3' h3 => ?_)
  refine SimX.then (sim_next 153 2 y3 y3' h3) (fun y4 y4' h4 => ?_)
  have ea := bare_at h
  have e1 : y4.1.fV = y4'.1.fV := (congrArg WS.fV h4 : y4.1.bare.fV = y4'.1.bare.fV)
  have e2 : y4.1.fP = y4'.1.fP := (congrArg WS.fP h4 : y4.1.bare.fP = y4'.1.bare.fP)
  have e3 : y4.1.fR = y4'.1.fR := (congrArg WS.fR h4 : y4.1.bare.fR = y4'.1.bare.fR)
  have e4 : y4.1.len = y4'.1.len := (congrArg WS.len h4 : y4.1.bare.len = y4'.1.bare.len)
  have ho : headOk y4.1 x.1.at' = headOk y4'.1 x'.1.at' := by
    unfold headOk
    rw [e1, e2, e3, e4, ea]
  have hl : ∀ (r : X Unit), SimX (thenX r fun _ => locX (leaving b) y4.1.fV x.1.at' y4) (thenX r fun _ => locX (leaving b) y4'.1.fV x'.1.at' y4') := fun r => by
    cases r with
    | error z => rfl
    | ok t =>
      show SimX (locX (leaving b) y4.1.fV x.1.at' y4) (locX (leaving b) y4'.1.fV x'.1.at' y4')
      rw [e1, ea]
      exact sim_loc _ _ _ _ h4
  have hh := hl (headOk y4'.1 x'.1.at')
  refine SimX.cast ?_ rfl hh
  show thenX (headOk y4.1 x.1.at') _ = thenX (headOk y4'.1 x'.1.at') _
  rw [ho]

end Go.Proofs.YtingenonbkencaaDoor

namespace Go.Proofs.YtingenonbkencaaDoor
open Go.RowKit (wrap32 wrap64)
set_option linter.unusedVariables false
set_option linter.unusedSimpArgs false

theorem SimX.refl (r : X (WS × Unit)) : SimX r r := by cases r <;> exact rfl
theorem SimX.symm {r r' : X (WS × Unit)} (h : SimX r r') : SimX r' r := by
  cases r <;> cases r' <;> first | exact Eq.symm h | exact h.elim
theorem SimX.trans {r r' r'' : X (WS × Unit)} (h : SimX r r') (k : SimX r' r'') : SimX r r'' := by
  cases r <;> cases r' <;> cases r'' <;> first | exact Eq.trans h k | exact h.elim | exact k.elim

theorem SimX.err {z : Int × Int} {T : X (WS × Unit)} (h : SimX (.error z) T) : T = .error z := by
  cases T with
  | ok y => exact h.elim
  | error z' => exact congrArg _ (Eq.symm h)
theorem SimX.okk {y : WS × Unit} {T : X (WS × Unit)} (h : SimX (.ok y) T) : ∃ y', T = .ok y' ∧ y.1.bare = y'.1.bare := by
  cases T with
  | ok y' => exact ⟨y', rfl, h⟩
  | error z' => exact h.elim

/-- Steps that do not look at addresses. -/
def Resp (p : WS × Unit → X (WS × Unit)) : Prop := ∀ y y', y.1.bare = y'.1.bare → SimX (p y) (p y')

theorem step_sim {c c' : X (WS × Unit)} {p K : WS × Unit → X (WS × Unit)} {T : X (WS × Unit)} (h : SimX (thenX (thenX c p) K) T) (hc : SimX c' c) (hp : Resp p) (hK : Resp K) :
    (∀ z, c' = .error z → T = .error z) ∧ ∀ y, c' = .ok y → SimX (thenX (p y) K) T := by
  have h2 : SimX (thenX (thenX c' p) K) T := (SimX.then (SimX.then hc hp) hK).trans h
  refine ⟨fun z e => ?_, fun y e => ?_⟩
  · subst e; exact h2.err
  · subst e; exact h2

/-- A function's head, an instruction, in the walk's hands. -/
def inF (f : PF) (s : WS) : WS := { s with fP := f.P, fR := f.R, fV := f.V, fC := nilS, len := (f.code.length : Nat) }
def inI (c : PI) (s : WS) : WS := { s with op := c.op, r := c.r, s := c.s, t := c.t, n := c.n, args := nilS, rets := nilS }

def headsP (b : Nat) : List PF → WS → X (WS × Unit)
  | [], s => .ok (s, ())
  | f :: r, s => thenX (headX (leaving b) (inF f s, ())) fun y => headsP b r y.1
def codeP (b : Nat) (heads : List (Nat × Nat)) (fR : Nat) : Nat → List PI → WS → X (WS × Unit)
  | _, [], s => .ok (s, ())
  | i, c :: r, s => thenX (instrL (b := b) heads fR i c.args c.rets (inI c s)) fun y => codeP b heads fR (i + 1) r y.1
def funcsP (b : Nat) (heads : List (Nat × Nat)) : List PF → WS → X (WS × Unit)
  | [], s => .ok (s, ())
  | f :: r, s => thenX (codeP b heads f.R.toNat 0 f.code (inF f s)) fun y => funcsP b heads r y.1
def headsOfP (fs : List PF) : List (Nat × Nat) := fs.map fun f => (f.P.toNat, f.R.toNat)
def overP (b : Nat) (G : Int) (fs : List PF) (s : WS) : X (WS × Unit) :=
  thenX (askX (leaving b) 146 1 (fun s => decide (0 ≤ s.globals ∧ s.globals ≤ 16)) 18 ({ s with globals := G, count := (fs.length : Nat) }, ())) fun y =>
    thenX (askX (leaving b) 161 2 (fun s => decide (1 ≤ s.count ∧ s.count ≤ 65535)) 20 y) fun y =>
      thenX (headsP b fs y.1) fun y => funcsP b (headsOfP fs) fs y.1

theorem inF_bare {s s' : WS} (f : PF) (h : s.bare = s'.bare) : (inF f s).bare = (inF f s').bare := (congrArg (fun t : WS => inF f t) h : inF f s.bare = inF f s'.bare)
theorem inI_bare {s s' : WS} (c : PI) (h : s.bare = s'.bare) : (inI c s).bare = (inI c s').bare := (congrArg (fun t : WS => inI c t) h : inI c s.bare = inI c s'.bare)

theorem sim_headsP (b : Nat) : ∀ (fs : List PF) (s s' : WS), s.bare = s'.bare → SimX (headsP b fs s) (headsP b fs s')
  | [], _, _, h => h
  | f :: r, s, s', h => SimX.then (sim_head (b := b) (inF f s, ()) (inF f s', ()) (inF_bare f h)) (fun y y' hy => sim_headsP b r y.1 y'.1 hy)
theorem sim_codeP (b : Nat) (heads : List (Nat × Nat)) (fR : Nat) : ∀ (l : List PI) (i : Nat) (s s' : WS), s.bare = s'.bare → SimX (codeP b heads fR i l s) (codeP b heads fR i l s')
  | [], _, _, _, h => h
  | c :: r, i, s, s', h => SimX.then (sim_instr (b := b) heads fR i c.args c.rets (inI c s) (inI c s') (inI_bare c h)) (fun y y' hy => sim_codeP b heads fR r (i + 1) y.1 y'.1 hy)
theorem sim_funcsP (b : Nat) (heads : List (Nat × Nat)) : ∀ (fs : List PF) (s s' : WS), s.bare = s'.bare → SimX (funcsP b heads fs s) (funcsP b heads fs s')
  | [], _, _, h => h
  | f :: r, s, s', h => SimX.then (sim_codeP b heads f.R.toNat f.code 0 (inF f s) (inF f s') (inF_bare f h)) (fun y y' hy => sim_funcsP b heads r y.1 y'.1 hy)

/-- What the heads have been asked. -/
def FineF (f : PF) : Prop := (0 ≤ f.V ∧ f.V ≤ 255) ∧ (0 ≤ f.P ∧ f.P ≤ 8) ∧ (0 ≤ f.R ∧ f.R ≤ 4) ∧ 0 < f.code.length ∧ f.code.length ≤ 4096

theorem L_head_state {b : Nat} {x y : WS × Unit} (h : headX (leaving b) x = .ok y) : y.1.fP = x.1.fP ∧ y.1.fR = x.1.fR ∧ y.1.fV = x.1.fV ∧ y.1.len = x.1.len ∧ y.1.fC = x.1.fC ∧ y.1.funcs = x.1.funcs := by
  obtain ⟨s, u⟩ := x
  have h := (headX_then (leaving b) (s, u)).symm.trans h
  rw [L_next] at h
  simp only [thenX] at h
  rw [L_next] at h
  simp only at h
  rw [L_next] at h
  simp only at h
  rw [L_next] at h
  simp only at h
  split at h
  · unfold locX at h
    split at h
    · cases h; exact ⟨rfl, rfl, rfl, rfl, rfl, rfl⟩
    · cases h
  · cases h

theorem head_fine {b : Nat} {f : PF} {s : WS} {y : WS × Unit} (hP : s.fP = f.P) (hR : s.fR = f.R) (hV : s.fV = f.V) (hl : s.len = (f.code.length : Nat)) (h : headX (leaving b) (s, ()) = .ok y) : FineF f := by
  obtain ⟨-, h1, h2, h3, h4, h5⟩ := headX_ok h
  obtain ⟨e1, e2, e3, e4, -⟩ := L_head_state h
  rw [e3, hV] at h1
  rw [e1, hP] at h2
  rw [e2, hR] at h3
  rw [e4, hl] at h4 h5
  exact ⟨h1, h2, h3, by omega, by omega⟩

/-- How 'over' ends. -/
def OverEnds (b : Nat) (T : X (WS × Unit)) (w : World) (e : Ending) (w' : World) : Prop :=
  Fr (fun k => k = b) w w' ∧ match T with
    | .ok y => e = .returned (.tuple #[]) ∧ ∃ x, On (leaving b) w' (x, ()) ∧ x.bare = y.1.bare
    | .error z => e = .panicked (viol z.1 z.2)

theorem overEnds_err {b : Nat} {T : X (WS × Unit)} {w w' : World} {z : Int × Int} (h : T = .error z) (hf : Fr (fun k => k = b) w w') : OverEnds b T w (.panicked (viol z.1 z.2)) w' := by
  subst h; exact ⟨hf, rfl⟩
theorem overEnds_ok {b : Nat} {T : X (WS × Unit)} {w w' : World} {s : WS} (h : SimX (.ok (s, ())) T) (hf : Fr (fun k => k = b) w w') (ho : On (leaving b) w' (s, ())) : OverEnds b T w (.returned (.tuple #[])) w' := by
  obtain ⟨y, rfl, hb⟩ := h.okk
  exact ⟨hf, rfl, s, ho, hb⟩

theorem heads_step {b : Nat} {fs : List PF} {k : Nat} (hk : k < fs.length) {s s2 : WS} {H : List (Nat × Nat)} {T : X (WS × Unit)} (h : SimX (thenX (headsP b (fs.drop k) s) fun y => funcsP b H fs y.1) T) (hs : s2.bare = (inF fs[k] s).bare) :
    (∀ z, headX (leaving b) (s2, ()) = .error z → T = .error z) ∧ ∀ y, headX (leaving b) (s2, ()) = .ok y → SimX (thenX (headsP b (fs.drop (k + 1)) y.1) fun y => funcsP b H fs y.1) T := by
  rw [List.drop_eq_getElem_cons hk] at h
  exact step_sim h (sim_head (b := b) (s2, ()) (inF fs[k] s, ()) hs) (fun y y' hy => sim_headsP b _ y.1 y'.1 hy) (fun y y' hy => sim_funcsP b H fs y.1 y'.1 hy)

theorem code_step {b : Nat} {fs : List PF} {c : List PI} {i fR : Nat} (hi : i < c.length) {s s2 : WS} {H : List (Nat × Nat)} {T : X (WS × Unit)} (h : SimX (thenX (codeP b H fR i (c.drop i) s) fun y => funcsP b H fs y.1) T) (hs : s2.bare = (inI c[i] s).bare) :
    (∀ z, instrL (b := b) H fR i c[i].args c[i].rets s2 = .error z → T = .error z) ∧ ∀ y, instrL (b := b) H fR i c[i].args c[i].rets s2 = .ok y → SimX (thenX (codeP b H fR (i + 1) (c.drop (i + 1)) y.1) fun y => funcsP b H fs y.1) T := by
  rw [List.drop_eq_getElem_cons hi] at h
  exact step_sim h (sim_instr (b := b) H fR i c[i].args c[i].rets s2 (inI c[i] s) hs) (fun y y' hy => sim_codeP b H fR _ _ y.1 y'.1 hy) (fun y y' hy => sim_funcsP b H fs y.1 y'.1 hy)

theorem code_end {b : Nat} {fs : List PF} {c : List PI} {fR : Nat} {s : WS} {H : List (Nat × Nat)} {T : X (WS × Unit)} {i : Nat} (hi : i = c.length) (h : SimX (thenX (codeP b H fR i (c.drop i) s) fun y => funcsP b H fs y.1) T) : SimX (funcsP b H fs s) T := by
  subst hi
  rw [List.drop_length] at h
  exact h
theorem heads_end {b : Nat} {fs : List PF} {s : WS} {H : List (Nat × Nat)} {T : X (WS × Unit)} {i : Nat} (hi : i = fs.length) (h : SimX (thenX (headsP b (fs.drop i) s) fun y => funcsP b H fs y.1) T) : SimX (funcsP b H fs s) T := by
  subst hi
  rw [List.drop_length] at h
  exact h
theorem funcs_begin {b : Nat} {fs : List PF} {k : Nat} (hk : k < fs.length) {s s2 : WS} {H : List (Nat × Nat)} {T : X (WS × Unit)} (h : SimX (funcsP b H (fs.drop k) s) T) (hs : s2.bare = (inF fs[k] s).bare) :
    SimX (thenX (codeP b H fs[k].R.toNat 0 (fs[k].code.drop 0) s2) fun y => funcsP b H (fs.drop (k + 1)) y.1) T := by
  rw [List.drop_eq_getElem_cons hk] at h
  exact (SimX.then (sim_codeP b H _ _ _ s2 (inF fs[k] s) hs) (fun y y' hy => sim_funcsP b H _ y.1 y'.1 hy)).trans h
theorem funcs_end {b : Nat} {fs : List PF} {s : WS} {H : List (Nat × Nat)} {T : X (WS × Unit)} {i : Nat} (hi : i = fs.length) (h : SimX (funcsP b H (fs.drop i) s) T) : SimX (.ok (s, ())) T := by
  subst hi
  rw [List.drop_length] at h
  exact h

/-- The heads, as the functions lie. -/
theorem headsAt_P {b : Nat} {w : World} {k o : Nat} {fs : List PF} (h : ∀ j (h : j < fs.length), ∃ cv,
    w.cell? ⟨k, o + j * 4, none⟩ = some (vI fs[j].P) ∧ w.cell? ⟨k, o + j * 4 + 1, none⟩ = some (vI fs[j].R) ∧ w.cell? ⟨k, o + j * 4 + 2, none⟩ = some (vI fs[j].V) ∧ w.cell? ⟨k, o + j * 4 + 3, none⟩ = some cv ∧ CL b w cv fs[j].code)
    (hf : ∀ f ∈ fs, FineF f) : HeadsAt w k o (headsOfP fs) := by
  intro j hj
  have hj' : j < fs.length := by simpa [headsOfP] using hj
  obtain ⟨cv, h1, h2, -⟩ := h j hj'
  obtain ⟨-, f2, f3, -⟩ := hf fs[j] (List.getElem_mem hj')
  have e : (headsOfP fs)[j] = (fs[j].P.toNat, fs[j].R.toNat) := by simp [headsOfP]
  rw [e]
  refine ⟨?_, ?_, ?_, ?_⟩
  · rw [h1]; simp only; rw [Int.toNat_of_nonneg f2.1]
  · rw [h2]; simp only; rw [Int.toNat_of_nonneg f3.1]
  · simp only; omega
  · simp only; omega

end Go.Proofs.YtingenonbkencaaDoor

namespace Go.Proofs.YtingenonbkencaaDoor
open Go.RowKit (wrap32 wrap64)
set_option linter.unusedVariables false
set_option linter.unusedSimpArgs false

abbrev u8v (c : UInt8) : Value := .int .u8 c.toNat

/-- A number's bytes, the lowest first. -/
def leBytes : Nat → Nat → List UInt8
  | 0, _ => []
  | k + 1, n => UInt8.ofNat (n % 256) :: leBytes k (n / 256)

theorem leBytes_length : ∀ (k n : Nat), (leBytes k n).length = k
  | 0, _ => rfl
  | k + 1, n => by simp [leBytes, leBytes_length k]

theorem leBytes_get : ∀ (k n j : Nat), j < k → (leBytes k n)[j]? = some (UInt8.ofNat (n / 256 ^ j % 256))
  | 0, _, _, h => absurd h (Nat.not_lt_zero _)
  | k + 1, n, 0, _ => by simp [leBytes]
  | k + 1, n, j + 1, h => by
    simp only [leBytes, List.getElem?_cons_succ]
    rw [leBytes_get k (n / 256) j (by omega), Nat.div_div_eq_div_mul, Nat.pow_succ, Nat.mul_comm]

theorem leBytes_take (k n j : Nat) (h : j < k) : (leBytes k n).take (j + 1) = (leBytes k n).take j ++ [UInt8.ofNat (n / 256 ^ j % 256)] := by
  rw [List.take_add_one, leBytes_get k n j h]
  rfl

/-- The writer's bytes: its variable in block wb; its row of its own behind K, or the full row g0 that it began with. -/
structure Row (w : World) (wb g0 K : Nat) (l : List UInt8) (bv : Value) : Prop where
  var : w.heap[wb]? = some (.cells #[bv] 53)
  own : w.ownsRow K 5 1 bv l.length (l.map u8v) ∨ (bv = .slice (some ⟨g0, 0, none⟩) l.length l.length ∧ ∀ j u, (l.map u8v)[j]? = some u → w.cell? ⟨g0, j, none⟩ = some u)
  g0K : g0 < K
  g0w : g0 ≠ wb
  wK : wb < K
  Kw : K ≤ w.heap.size

theorem Row.alloc {w : World} {wb g0 K : Nat} {l : List UInt8} {bv : Value} (h : Row w wb g0 K l bv) (o : Obj) : Row (w.alloc o) wb g0 K l bv := by
  have e : ∀ k, k < K → (w.alloc o).heap[k]? = w.heap[k]? := fun k hk => Go.RowKit.Below.heap_alloc w o k (Nat.lt_of_lt_of_le hk h.Kw)
  refine ⟨by rw [e wb h.wK]; exact h.var, ?_, h.g0K, h.g0w, h.wK, by have := h.Kw; simp; omega⟩
  rcases h.own with k | ⟨k1, k2⟩
  · exact Or.inl (k.alloc o)
  · exact Or.inr ⟨k1, fun j u hu => by rw [World.cell?_of_block (a := ⟨g0, j, none⟩) (e g0 h.g0K)]; exact k2 j u hu⟩

theorem Row.fr {S : Nat → Prop} {w w' : World} {wb g0 K : Nat} {l : List UInt8} {bv : Value} (h : Row w wb g0 K l bv) (f : Fr S w w') (h1 : ¬ S wb) (h2 : ¬ S g0) (h3 : ∀ k, K ≤ k → ¬ S k) : Row w' wb g0 K l bv := by
  have hKw := h.Kw
  have hwK := h.wK
  have hgK := h.g0K
  refine ⟨by rw [f.block wb (by omega) h1]; exact h.var, ?_, h.g0K, h.g0w, h.wK, Nat.le_trans hKw f.size⟩
  rcases h.own with k | ⟨k1, k2⟩
  · exact Or.inl (ownsRow_fr k f (fun g e => h3 g (World.ownsRow.lt k g e).1))
  · exact Or.inr ⟨k1, fun j u hu => by rw [f.cell (by omega) h2]; exact k2 j u hu⟩

theorem addr_add (g j : Nat) : (⟨g, 0, none⟩ : Addr).add j = ⟨g, j, none⟩ := by unfold Addr.add; split <;> simp_all

/-- What append does with the writer's row. -/
theorem row_append {w : World} {wb g0 K : Nat} {l : List UInt8} {bv : Value} (h : Row w wb g0 K l bv) (ty : TypeId) (ad : Addr) (cc : Nat) (c : Value) (hc : ∀ j u, [c][j]? = some u → w.cell? (ad.add j) = some u) (h1 : ∀ u ∈ [c], u.oneCell' = true) (hl : l.length + 1 ≤ 1000000000000) :
    ∃ v1 w6 r, (Builtin.append_ #[22, 22] ty #[bv, .slice (some ad) 1 cc]).run Tryd.prog w = .ok v1 w6 ∧ w6.ownsRow K 5 1 v1 (l.length + 1) (l.map u8v ++ [c]) ∧ w.grownBy w6 r ∧ (∀ g, r = some g → K ≤ g) := by
  obtain ⟨i5, hi5, hz5, hs5, hb5⟩ := info_parts (P := Tryd.prog) (e := 5) (z := .int .u8 0) (size := 1) (bytes := 1) (by kernel_rfl)
  have hm : l.length + 1 ≤ maxLen := by unfold maxLen; omega
  rcases h.own with k | ⟨rfl, k2⟩
  · obtain ⟨v1, w6, hr, r1, r2, -⟩ := run_append_own (P := Tryd.prog) w K 22 ty 5 i5 (.int .u8 0) 1 1 Tryd.underlying22 hi5 hz5 hs5 hb5 rfl (by omega) bv l.length _ k ad 1 cc [c] rfl hc h1 hm (by omega) h.Kw
    exact ⟨v1, w6, _, hr, r1, r2, fun g e => (World.ownsRow.lt k g e).1⟩
  · have hr := run_append_grow (P := Tryd.prog) w 22 ty 5 i5 (.int .u8 0) Tryd.underlying22 hi5 hz5 ⟨g0, 0, none⟩ l.length l.length (l.map u8v) (by rw [hs5]; simp) (fun j u hu => by rw [addr_add]; exact k2 j u hu) ad 1 cc [c] (by rw [hs5]; rfl) hc (by omega) (by omega) (by rw [hb5]; exact growslice_fits (by omega) (by omega))
    have hge := grownCap_ge w (l.length + 1) l.length 5
    have hcm : grownCap w (l.length + 1) l.length 5 ≤ maxLen := grownCap_le_maxLen w (l.length + 1) l.length 5 hm
    refine ⟨_, _, none, hr, ⟨by simp, .inr ⟨w.heap.size, _, _, rfl, h.Kw, heap_alloc_last w.drew _, hge, hcm, ?_, ?_⟩⟩, ⟨rfl, rfl, rfl, by simp, fun k hk _ => Go.RowKit.Below.heap_alloc w.drew _ k hk⟩, fun g e => by cases e⟩
    · have : (Builtin.zeroCells (Value.int .u8 0).cells (grownCap w (l.length + 1) l.length 5 - (l.length + 1))).size = grownCap w (l.length + 1) l.length 5 - (l.length + 1) := by
        rw [size_zeroCells]; rw [show (Value.int IntKind.u8 0).cells.size = 1 from rfl]; omega
      simp only [Array.size_append, List.size_toArray, this, List.length_map, List.length_cons, List.length_nil]
      omega
    · simp only [Array.toList_append]
      rw [List.take_append_of_le_length (by simp), List.take_of_length_le (by simp)]

theorem wpList_row {w : World} {wb g0 K : Nat} {l : List UInt8} {bv : Value} {ops : Array Oper} {rest : List Oper} {o : Oper} {a : Act} {Q : Exit → Act → World → Prop} (hgd : o.guard = none) (s x : Operand)
    (ho : o.op = .call { callee := .builtin .append, args := #[s, x], argTypes := #[22, 22] }) (h : Row w wb g0 K l bv) (hs : a.eval s = bv) (ad : Addr) (cc : Nat) (c : Value) (hx : a.eval x = .slice (some ad) 1 cc)
    (hc : ∀ j u, [c][j]? = some u → w.cell? (ad.add j) = some u) (h1 : ∀ u ∈ [c], u.oneCell' = true) (hl : l.length + 1 ≤ 1000000000000)
    (hk : ∀ v1 w6 r, w6.ownsRow K 5 1 v1 (l.length + 1) (l.map u8v ++ [c]) → w.grownBy w6 r → (∀ g, r = some g → K ≤ g) → wpList Tryd.prog ops Q rest (a.put o.dst v1) w6) : wpList Tryd.prog ops Q (o :: rest) a w :=
  wpList_plain hgd fun _ hK => by
    obtain ⟨v1, w6, r, hr, h2, h3, h4⟩ := row_append h o.type ad cc c hc h1 hl
    unfold Oper.wp execOp
    simp only [ho, resolve, invoke, builtin, Sem.run_bind, Sem.run_pure, Result.andThen_ok, List.map_toArray, List.map_cons, List.map_nil, hs, hx, hr]
    exact hK _ _ (hk v1 w6 r h2 h3 h4)

/-- One byte more. -/
theorem Row.push {w w6 : World} {wb g0 K : Nat} {l : List UInt8} {bv v1 : Value} {c : UInt8} {r : Option Nat} (h : Row w wb g0 K l bv)
    (hown : w6.ownsRow K 5 1 v1 (l.length + 1) (l.map u8v ++ [u8v c])) (hg : w.grownBy w6 r) (hr : ∀ g, r = some g → K ≤ g) : Row (w6.setCell ⟨wb, 0, none⟩ v1) wb g0 K (l ++ [c]) v1 ∧ Fr (fun k => k = wb ∨ K ≤ k) w (w6.setCell ⟨wb, 0, none⟩ v1) := by
  have hKw := h.Kw
  have hwK := h.wK
  have hvar6 : w6.heap[wb]? = some (.cells #[bv] 53) := by rw [hg.block wb (by omega) (fun e => by have := hr wb e.symm; omega)]; exact h.var
  have hbw : ∀ g, v1.ownBlock = some g → g ≠ wb := fun g e hw => by have := (World.ownsRow.lt hown g e).1; omega
  refine ⟨⟨?_, Or.inl ?_, h.g0K, h.g0w, hwK, by have := hg.size; simp; omega⟩, ?_⟩
  · unfold World.setCell
    simp only [Array.getElem?_modify]
    rw [if_pos trivial, hvar6]
    rfl
  · have e1 : (l ++ [c]).length = l.length + 1 := by simp
    rw [e1, List.map_append]
    have hf : Fr (fun j => j = wb) w6 (w6.setCell ⟨wb, 0, none⟩ v1) := Fr.setCell (Fr.refl (fun j => j = wb) w6) _ _ (Or.inl rfl)
    exact ownsRow_fr hown hf (fun g e => hbw g e)
  · exact Fr.setCell ((grown_fr hg).mono (fun j hj e => Or.inr (hr j e))) _ _ (Or.inl (Or.inl rfl))

set_option maxRecDepth 100000 in
set_option maxHeartbeats 1000000 in
theorem writes_any (wb g0 K : Nat) (l : List UInt8) (bv : Value) (p : Addr) (at' v : Int) (size : Nat) (w : World) (hp : w.cell? p = some (vI v)) (hs : size ≤ 8) (hr : Row w wb g0 K l bv) (hl : l.length + size ≤ 1000000000000) :
    Calls Tryd.prog 34 #[.pointer (some ⟨wb, 0, none⟩), .pointer (some p), .int .i64 at', .int .i64 size] w fun e w' =>
      e = .returned (.tuple #[]) ∧ (∃ bv', Row w' wb g0 K (l ++ leBytes size (IntKind.u64.wrap v).toNat) bv') ∧ Fr (fun k => k = wb ∨ K ≤ k) w w' := by
  have hN0 : 0 ≤ IntKind.u64.wrap v := by rw [IntKind.wrap_u64]; omega
  obtain ⟨N, hN⟩ := Int.eq_ofNat_of_zero_le hN0
  have HN : Hd (IntKind.u64.wrap v = N) := hN
  go_enter Tryd.func34, Tryd.ntmps34
  go_wp2_with fail
  obtain ⟨i5, hi5, hz5, hs5, hb5⟩ := info_parts (P := Tryd.prog) (e := 5) (z := .int .u8 0) (size := 1) (bytes := 1) (by kernel_rfl)
  go_loopw [8, 14] (fun nv i wr => ∃ (k : Nat) (bv' : Value), k ≤ size ∧ i = .int .i64 k ∧ nv = .int .u64 ((N / 256 ^ k : Nat) : Int) ∧ Row wr wb g0 K (l ++ (leBytes size N).take k) bv' ∧ Fr (fun k => k = wb ∨ K ≤ k) w wr) (fun _ i _ => match i with | .int _ q => size - q.toNat | _ => 0)
  case atStart => exact ⟨0, bv, Nat.zero_le _, rfl, by simp, by simpa using hr, Fr.refl _ _⟩
  case round =>
    obtain ⟨k, bv', hk, rfl, rfl, hrow, hfr⟩ := hrel
    by_cases hlt : k < size
    · have hKw := hrow.Kw
      have hcw : wr.cell? ⟨wb, 0, none⟩ = some bv' := by unfold World.cell?; simp [hrow.var]
      have hwb : wb < wr.heap.size := by have := hrow.wK; omega
      have hll : (l ++ (leBytes size N).take k).length = l.length + k := by simp [leBytes_length]; omega
      have hcell1 : ∀ (j : Nat) (u : Value), [Value.int .u8 ((N : Int) / 256 ^ k % 256)][j]? = some u → (wr.alloc (.cells #[.int .u8 ((N : Int) / 256 ^ k % 256)] 5)).cell? ((⟨wr.heap.size, 0, none⟩ : Addr).add j) = some u := by
        intro j u hu
        have hadd : (⟨wr.heap.size, 0, none⟩ : Addr).add j = ⟨wr.heap.size, j, none⟩ := by unfold Addr.add; split <;> simp_all
        rw [hadd, World.cell?_alloc_new]
        simpa using hu
      have hval : Hd (Value.int .u8 ((N : Int) / 256 ^ k % 256) = u8v (UInt8.ofNat (N / 256 ^ k % 256))) := by
        unfold Hd
        simp
      have hl' : (l ++ (leBytes size N).take k).length + 1 ≤ 1000000000000 := by rw [hll]; omega
      go_wp2_with ((
        at_builtin
        refine wpList_row rfl (.tmp 20) (.tmp 23) rfl (hrow.alloc _) rfl ⟨wr.heap.size, 0, none⟩ 1 (.int .u8 ((N : Int) / 256 ^ k % 256)) rfl hcell1 (by intro u hu; simp at hu; subst hu; rfl) hl' ?_
        intro v1 w6 r hown6 hgrow6 hr6
        rw [hll] at hown6
        obtain ⟨a', c', hv1⟩ : ∃ a' c', v1 = .slice a' (l.length + k + 1) c' := by
          rcases hown6.2 with ⟨e1, e2⟩ | ⟨g, cap, cur, e1, -⟩
          · omega
          · exact ⟨_, _, e1⟩
        subst hv1
        have hw6 : w6.heap[wb]? = some (.cells #[bv'] 53) := by
          rw [hgrow6.block wb (by simp; omega) (fun e => by have := hr6 wb e.symm; have := hrow.wK; omega), Go.RowKit.Below.heap_alloc _ _ _ hwb]; exact hrow.var
        have hc6 : w6.cell? ⟨wb, 0, none⟩ = some bv' := by unfold World.cell?; simp [hw6]
        have hz6 : w6.frozen? ⟨wb, 0, none⟩ = false := by unfold World.frozen?; simp [hw6]
        have hlt6 : wb < w6.heap.size := (Array.getElem?_eq_some_iff.1 hw6).1))
      rw [hval.out] at hown6
      rw [← hll] at hown6
      obtain ⟨hr2, hf2⟩ := (hrow.alloc (.cells #[.int .u8 ((N : Int) / 256 ^ k % 256)] 5)).push hown6 hgrow6 hr6
      rw [hll] at hr2 hf2
      refine ⟨⟨k + 1, .slice a' (l.length + k + 1) c', by omega, by simp, ?_, ?_, ?_⟩, by simp; omega⟩
      · rw [Nat.pow_succ, ← Nat.div_div_eq_div_mul]; simp
      · rw [leBytes_take size N k hlt, ← List.append_assoc]
        exact hr2
      · exact hfr.trans ((Fr.alloc (Fr.refl _ wr) _).trans hf2)
    · have hks : k = size := by omega
      subst hks
      go_wp2_with fail
      go_end0
      refine ⟨rfl, ⟨bv', ?_⟩, hfr⟩
      rw [HN.out, Int.toNat_natCast]
      rw [List.take_of_length_le (by rw [leBytes_length]; exact Nat.le_refl _)] at hrow
      exact hrow

/-- Numbers that are written: so many more have room. -/
def writerFn (wb : Nat) : Value := .func (.func 34) #[.pointer (some ⟨wb, 0, none⟩)] #[]

def writing (b wb g0 K : Nat) : Mode b where
  σ := Nat × List UInt8
  S := fun k => k = wb ∨ K ≤ k
  N := fun k => k = 0 ∨ k = wb ∨ k = g0 ∨ K ≤ k
  fn := writerFn wb
  I := fun st p w => p = st.2.length ∧ st.2.length + 8 * st.1 ≤ 1000000000 ∧ 0 < K ∧ 0 < wb ∧ b ≠ 0 ∧ b < K ∧ b ≠ wb ∧ g0 ≠ b ∧ Tab w ∧ ∃ bv, Row w wb g0 K st.2 bv
  eff := fun st _ size v => if st.1 = 0 then .error (-1, -1) else .ok (v, (st.1 - 1, st.2 ++ leBytes size (IntKind.u64.wrap v).toNat))
  tab := fun _ _ _ h => h.2.2.2.2.2.2.2.2.1
  stable := fun st p w w' h f => by
    obtain ⟨h1, h2, h3, h4, h5, h6, h7, h8, h9, bv, k⟩ := h
    exact ⟨h1, h2, h3, h4, h5, h6, h7, h8, h9.fr f (fun e => h5 e.symm), bv, k.fr f (fun e => h7 e.symm) h8 (fun j hj e => by omega)⟩
end Go.Proofs.YtingenonbkencaaDoor
