import Derived.Test.YtingenonbkencaaDoorQLbJ
set_option linter.unusedVariables false
set_option linter.unusedSimpArgs false
namespace Go.Proofs.YtingenonbkencaaDoor
open Go.RowKit (wrap32 wrap64)
abbrev fR (f : PF) (cv : Value) : List Value := [vI f.P, vI f.R, vI f.V, cv]
abbrev markF : List Value := [vI 0, vI 0, vI (-77), .slice none 0 0]
def wideF (fs : List PF) (cv : Nat → Value) (i : Nat) : List Value := match fs[i]? with | some f => fR f (cv i) | none => markF
def FA (w : World) (v : Value) (fs : List PF) : Prop :=
 ∃ a cp, v = .slice a fs.length cp ∧ (fs ≠ [] → ∃ k o, a = some ⟨k, o, none⟩ ∧ k < w.heap.size ∧ ∀ j (h : j < fs.length), ∃ cv,
  w.cell? ⟨k, o + j * 4, none⟩ = some (vI fs[j].P) ∧ w.cell? ⟨k, o + j * 4 + 1, none⟩ = some (vI fs[j].R) ∧ w.cell? ⟨k, o + j * 4 + 2, none⟩ = some (vI fs[j].V) ∧ w.cell? ⟨k, o + j * 4 + 3, none⟩ = some cv ∧ CA w cv fs[j].code)
theorem FA.stay {w w' : World} {v : Value} {fs : List PF} (h : FA w v fs) (f : Fr (fun _ => False) w w') : FA w' v fs := by
 obtain ⟨a, cp, rfl, h⟩ := h
 refine ⟨a, cp, rfl, fun hne => ?_⟩
 obtain ⟨k, o, rfl, hk, hc⟩ := h hne
 refine ⟨k, o, rfl, Nat.lt_of_lt_of_le hk f.size, fun j hj => ?_⟩
 obtain ⟨cv, h1, h2, h3, h4, h5⟩ := hc j hj
 have g : ∀ o, w'.cell? ⟨k, o, none⟩ = w.cell? ⟨k, o, none⟩ := fun o => f.cell hk (fun h => h)
 exact ⟨cv, (g _).trans h1, (g _).trans h2, (g _).trans h3, (g _).trans h4, h5.stay f⟩
def FineP (fs : List PF) : Prop := fs.length ≤ 2932031007317 ∧ ∀ f ∈ fs, FineC f.code
structure WF (w : World) (B : Nat) (v : Value) (fs : List PF) (g : Nat) (cv : Nat → Value) : Prop where
 val : v = .slice (some ⟨g, 0, none⟩) fs.length (fs.length + 64)
 ge : B ≤ g
 row : Rws w 67 4 g (fs.length + 64) (wideF fs cv)
 code : ∀ i f, fs[i]? = some f → WC w B (cv i) f.code
 apart : ∀ i j, i < fs.length → j < fs.length → i ≠ j → (cv i).ownBlock ≠ (cv j).ownBlock
theorem WC.ne {w : World} {B g m : Nat} {t sz : Nat} {R : Nat → List Value} {v : Value} {cs : List PI} (h : WC w B v cs) (hR : Rws w t sz g m R) (ht : t ≠ 71) : ∀ k, v.ownBlock = some k → k ≠ g := by
 obtain ⟨g', ps, rfl, -, ⟨cs', h', -⟩, -⟩ := h
 obtain ⟨cs, h2, -⟩ := hR
 intro k e1 e2
 cases e1
 subst e2
 rw [h'] at h2
 cases h2
 exact ht rfl
theorem WC.at {w w' : World} {B g m : Nat} {R : Nat → List Value} {v : Value} {cs : List PI} (h : WC w B v cs) (hR : Rws w 67 4 g m R) (f : Fr (fun k => k = g) w w') : WC w' B v cs := by
 have hne := h.ne hR (by decide)
 obtain ⟨g', ps, rfl, h1, h2, h3⟩ := h
 exact ⟨g', ps, rfl, h1, h2.fr f (hne g' rfl), fun i c hc => ⟨(h3 i c hc).1.fr f ((h3 i c hc).1.ne hR (by decide)), (h3 i c hc).2.fr f ((h3 i c hc).2.ne hR (by decide))⟩⟩
theorem under24 : Tryd.prog.underlying 24 = some (.slice 67) := by kernel_rfl
theorem list4 {α : Type} : ∀ (l : List α), l.length = 4 → ∃ a b c d, l = [a, b, c, d]
 | [a, b, c, d], _ => ⟨a, b, c, d, rfl⟩
def fou4 (w : World) (g q : Nat) (x : List Value) : World :=
 (((w.setCell ⟨g, q, none⟩ (x.getD 0 undef)).setCell ⟨g, q + 1, none⟩ (x.getD 1 undef)).setCell ⟨g, q + 2, none⟩ (x.getD 2 undef)).setCell ⟨g, q + 3, none⟩ (x.getD 3 undef)
theorem Rws.set4 {w : World} {t g m : Nat} {R : Nat → List Value} (h : Rws w t 4 g m R) {i : Nat} (hi : i < m) (hl : (R i).length = 4) (x : List Value) (hx : x.length = 4) : Rws (fou4 w g (i * 4) x) t 4 g m (at1 R i x) := by
 have h0 := h.set1 (o := 0) hi (by omega) hl (x.getD 0 undef)
 have h1 := h0.set1 (i := i) (o := 1) hi (by omega) (by simp only [at1_self, List.length_set]; exact hl) (x.getD 1 undef)
 have h2 := h1.set1 (i := i) (o := 2) hi (by omega) (by simp only [at1_self, List.length_set]; exact hl) (x.getD 2 undef)
 have h3 := h2.set1 (i := i) (o := 3) hi (by omega) (by simp only [at1_self, List.length_set]; exact hl) (x.getD 3 undef)
 simp only [at1_at1, at1_self, Nat.add_zero] at h3
 obtain ⟨a, b, c, d, hR⟩ := list4 _ hl
 obtain ⟨x0, x1, x2, x3, rfl⟩ := list4 _ hx
 rw [hR] at h3
 simp only [List.set_cons_zero, List.set_cons_succ, List.getD_cons_zero, List.getD_cons_succ] at h3
 unfold fou4
 simp only [List.getD_cons_zero, List.getD_cons_succ]
 exact h3
def thenX {α β : Type} (c : X α) (p : α → X β) : X β := match c with | .ok y => p y | .error z => .error z
structure Kept (s s' : WS) : Prop where
 num : s'.num = s.num
 globals : s'.globals = s.globals
 funcs : s'.funcs = s.funcs
 fP : s'.fP = s.fP
 fR : s'.fR = s.fR
 fV : s'.fV = s.fV
 fC : s'.fC = s.fC
 len : s'.len = s.len
 op : s'.op = s.op
 args : s'.args = s.args
 rets : s'.rets = s.rets
theorem Kept.refl (s : WS) : Kept s s := ⟨rfl, rfl, rfl, rfl, rfl, rfl, rfl, rfl, rfl, rfl, rfl⟩
theorem Kept.trans {a b c : WS} (h : Kept a b) (k : Kept b c) : Kept a c :=
 ⟨k.num.trans h.num, k.globals.trans h.globals, k.funcs.trans h.funcs, k.fP.trans h.fP, k.fR.trans h.fR, k.fV.trans h.fV, k.fC.trans h.fC, k.len.trans h.len, k.op.trans h.op, k.args.trans h.args, k.rets.trans h.rets⟩
theorem nextX_kept {b : Nat} {M : Mode b} {o size : Nat} {x y : WS × M.σ} (ho : o = 155 ∨ o = 156 ∨ o = 157 ∨ o = 158 ∨ o = 161) (h : nextX M o size x = .ok y) : Kept x.1 y.1 := by
 obtain ⟨v, st, rfl⟩ := nextX_num h
 rcases ho with rfl | rfl | rfl | rfl | rfl <;> exact ⟨rfl, rfl, rfl, rfl, rfl, rfl, rfl, rfl, rfl, rfl, rfl⟩
theorem askX_kept {b : Nat} {M : Mode b} {o size : Nat} {c : WS → Bool} {er : Int} {x y : WS × M.σ} (ho : o = 155 ∨ o = 156 ∨ o = 157 ∨ o = 158 ∨ o = 161) (h : askX M o size c er x = .ok y) : Kept x.1 y.1 := by
 unfold askX at h
 split at h
 ·rename_i y' hy
  split at h
  ·cases h; exact nextX_kept ho hy
  ·cases h
 ·cases h
theorem locX_kept {b : Nat} {M : Mode b} {n p : Int} {x y : WS × M.σ} (h : locX M n p x = .ok y) : Kept x.1 y.1 := by
 unfold locX at h
 split at h
 ·cases h; exact ⟨rfl, rfl, rfl, rfl, rfl, rfl, rfl, rfl, rfl, rfl, rfl⟩
 ·cases h
theorem frontOk_kept {b : Nat} {M : Mode b} {ends makes nb : Bool} {i : Nat} {p : Int} {x y : WS × M.σ} (h : frontOk M ends makes nb i p x = .ok y) : Kept x.1 y.1 := by
 unfold frontOk at h
 split at h
 ·cases h
 ·split at h
  ·cases h
  ·split at h
   ·exact locX_kept h
   ·cases h; exact Kept.refl _
def Stage {b : Nat} (M : Mode b) (w : World) (s0 : WS) (c : X (WS × M.σ)) (w1 : World) : Prop :=
 ∃ y, c = .ok y ∧ Fr M.SB w w1 ∧ On M w1 y ∧ Kept s0 y.1
theorem Stage.lies {b : Nat} {M : Mode b} {w : World} {s0 : WS} {c : X (WS × M.σ)} {w1 : World} (h : Stage M w s0 c w1) : ∃ s, Lies w1 b s := let ⟨y, _, _, h, _⟩ := h; ⟨y.1, h.1⟩
theorem Stage.drew {b : Nat} {M : Mode b} {w : World} {s0 : WS} {c : X (WS × M.σ)} {w1 : World} (h : Stage M w s0 c w1) : Stage M w s0 c w1.drew := let ⟨y, h1, h2, h3, h4⟩ := h; ⟨y, h1, h2.drew, h3.drew, h4⟩
theorem stage_step {b : Nat} {M : Mode b} {w : World} {s0 : WS} {c : X (WS × M.σ)} {w1 : World} {f : Nat} {args : Array Value} {p : WS × M.σ → X (WS × M.σ)} {Post : Ending → World → Prop}
 (hk : ∀ y y', p y = .ok y' → Kept y.1 y'.1) (hE : ∀ z w', thenX c p = .error z → Fr M.SB w w' → Post (.panicked (viol z.1 z.2)) w')
 (hcall : ∀ y, On M w1 y → Kept s0 y.1 → Calls Tryd.prog f args w1 (Ends M w1 (p y))) (h : Stage M w s0 c w1) : Calls Tryd.prog f args w1 (StepR (Stage M w s0 (thenX c p)) Post) := by
 obtain ⟨y, rfl, hf, hon, hkp⟩ := h
 refine (hcall y hon hkp).mono ?_
 rintro e w' ⟨hf', hr⟩
 cases hp : p y with
 | error z =>
   simp only [hp] at hr
   subst hr
   exact Or.inr ⟨_, rfl, hE z w' hp (hf.trans hf')⟩
 | ok y' =>
   simp only [hp] at hr
   obtain ⟨rfl, hon'⟩ := hr
   exact Or.inl ⟨rfl, y', hp, hf.trans hf', hon', hkp.trans (hk y y' hp)⟩
theorem stage_end {b : Nat} {M : Mode b} {w : World} {s0 : WS} {c : X (WS × M.σ)} {w1 : World} (h : Stage M w s0 c w1) : Ends M w c (.returned (.tuple #[])) w1 := by
 obtain ⟨y, rfl, hf, hon, -⟩ := h
 exact ⟨hf, rfl, hon⟩
theorem ends_error {b : Nat} {M : Mode b} {w w' : World} {c : X (WS × M.σ)} {z : Int × Int} (h : c = .error z) (hf : Fr M.SB w w') : Ends M w c (.panicked (viol z.1 z.2)) w' := by
 subst h; exact ⟨hf, rfl⟩
def varPart {b : Nat} (M : Mode b) (o : Nat) (x : WS × M.σ) : X (WS × M.σ) := askX M o 1 (fun s => decide (0 ≤ s.get o ∧ s.get o ≤ IntKind.i64.wrap (s.fV - 1))) 13 x
def fieldsPart {b : Nat} (M : Mode b) (x : WS × M.σ) : X (WS × M.σ) := askX M 158 1 (fun s => decide (1 ≤ s.n ∧ s.n ≤ 8)) 17 x
def fieldPart {b : Nat} (M : Mode b) (x : WS × M.σ) : X (WS × M.σ) := askX M 158 1 (fun s => decide (0 ≤ s.n ∧ s.n ≤ 7)) 17 x
def globalPart {b : Nat} (M : Mode b) (x : WS × M.σ) : X (WS × M.σ) := askX M 158 1 (fun s => decide (0 ≤ s.n ∧ s.n ≤ IntKind.i64.wrap (s.globals - 1))) 18 x
def targetPart {b : Nat} (M : Mode b) (x : WS × M.σ) : X (WS × M.σ) := askX M 158 2 (fun s => decide (0 ≤ s.n ∧ s.n ≤ IntKind.i64.wrap (s.len - 1))) 16 x
def intPart {b : Nat} (M : Mode b) (x : WS × M.σ) : X (WS × M.σ) := nextX M 158 8 x
def partsX {b : Nat} (M : Mode b) (op : Nat) (c : X (WS × M.σ)) : X (WS × M.σ) :=
 match op with
 | 1 => (thenX (thenX c (varPart M 155)) (intPart M))
 | 2 => (thenX (thenX c (varPart M 155)) (varPart M 156))
 | 3 => (thenX (thenX (thenX c (varPart M 155)) (varPart M 156)) (varPart M 157))
 | 4 => (thenX (thenX (thenX c (varPart M 155)) (varPart M 156)) (varPart M 157))
 | 5 => (thenX (thenX c (varPart M 155)) (varPart M 156))
 | 6 => (thenX (thenX c (varPart M 155)) (fieldsPart M))
 | 7 => (thenX (thenX (thenX c (varPart M 155)) (varPart M 156)) (fieldPart M))
 | 8 => (thenX (thenX (thenX c (varPart M 155)) (varPart M 156)) (fieldPart M))
 | 9 => (thenX (thenX c (varPart M 155)) (globalPart M))
 | 10 => (thenX (thenX c (varPart M 156)) (globalPart M))
 | 12 => (thenX c (varPart M 156))
 | 13 => (thenX c (targetPart M))
 | 14 => (thenX (thenX c (varPart M 156)) (targetPart M))
 | 16 => (thenX c (varPart M 155))
 | 17 => (thenX (thenX (thenX c (varPart M 155)) (varPart M 156)) (varPart M 157))
 | _ => c
def Goes {b : Nat} (M : Mode b) (rm : M.σ → Nat) (n j : Nat) (c : X (WS × M.σ)) : Prop := ∀ y, c = .ok y → n ≤ rm y.2 + j
theorem Goes.then {b : Nat} {M : Mode b} {rm : M.σ → Nat} {n j : Nat} {c : X (WS × M.σ)} (h : Goes M rm n j c) (p : WS × M.σ → X (WS × M.σ)) (hp : ∀ a a', p a = .ok a' → rm a.2 ≤ rm a'.2 + 1) : Goes M rm n (j + 1) (thenX c p) := by
 intro y hy
 cases c with
 | error z => cases hy
 | ok a =>
   have h1 := h a rfl
   have h2 := hp a y hy
   omega
theorem ask_goes {b : Nat} {M : Mode b} {rm : M.σ → Nat} (hR : RoomGoes M rm) {o size : Nat} {c : WS → Bool} {er : Int} {x y : WS × M.σ} (h : askX M o size c er x = .ok y) : rm x.2 ≤ rm y.2 + 1 := by
 unfold askX at h
 split at h
 ·rename_i y' hy
  split at h
  ·cases h; exact hR _ _ _ _ hy
  ·cases h
 ·cases h
theorem loc_snd {b : Nat} {M : Mode b} {n p : Int} {x y : WS × M.σ} (h : locX M n p x = .ok y) : y.2 = x.2 := by
 unfold locX at h
 split at h
 ·cases h; rfl
 ·cases h
theorem front_snd {b : Nat} {M : Mode b} {ends makes nb : Bool} {i : Nat} {p : Int} {x y : WS × M.σ} (h : frontOk M ends makes nb i p x = .ok y) : y.2 = x.2 := by
 unfold frontOk at h
 split at h
 ·cases h
 ·split at h
  ·cases h
  ·split at h
   ·exact loc_snd h
   ·cases h; rfl
theorem front_goes {b : Nat} {M : Mode b} {rm : M.σ → Nat} (hR : RoomGoes M rm) {o size : Nat} {x y : WS × M.σ} (hx : nextX M o size x = .ok y) (ends makes nb : Bool) (i : Nat) (p : Int) : Goes M rm (rm x.2) 1 (frontOk M ends makes nb i p y) := fun y' hy => by
 rw [front_snd hy]; exact hR _ _ _ _ hx
theorem stage_stepR {b : Nat} {M : Mode b} {w : World} {s0 : WS} {c : X (WS × M.σ)} {w1 : World} {f : Nat} {args : Array Value} {p : WS × M.σ → X (WS × M.σ)} {Post : Ending → World → Prop}
 (hk : ∀ y y', p y = .ok y' → Kept y.1 y'.1) (hE : ∀ z w', thenX c p = .error z → Fr M.SB w w' → Post (.panicked (viol z.1 z.2)) w')
 (hcall : ∀ y, c = .ok y → On M w1 y → Kept s0 y.1 → Calls Tryd.prog f args w1 (Ends M w1 (p y))) (h : Stage M w s0 c w1) : Calls Tryd.prog f args w1 (StepR (Stage M w s0 (thenX c p)) Post) := by
 obtain ⟨y, hc, hf, hon, hkp⟩ := h
 have hcl := hcall y hc hon hkp
 subst hc
 refine hcl.mono ?_
 rintro e w' ⟨hf', hr⟩
 cases hp : p y with
 | error z =>
   simp only [hp] at hr
   subst hr
   exact Or.inr ⟨_, rfl, hE z w' hp (hf.trans hf')⟩
 | ok y' =>
   simp only [hp] at hr
   obtain ⟨rfl, hon'⟩ := hr
   exact Or.inl ⟨rfl, y', hp, hf.trans hf', hon', hkp.trans (hk y y' hp)⟩
def NewL (w w' : World) (av : Value) (vs : List Int) : Prop :=
 (vs = [] ∧ av = nilS) ∨ ∃ g, w.heap.size ≤ g ∧ av = .slice (some ⟨g, 0, none⟩) vs.length vs.length ∧ w'.heap[g]? = some (.cells (vs.map vI).toArray 3)
theorem varsX_length {b : Nat} {M : Mode b} : ∀ {l : List Int} {x : WS × M.σ} {vs : List Int} {y : WS × M.σ}, varsX M l x = .ok (vs, y) → vs.length = l.length
 | [], _, _, _, h => by simp only [varsX, Except.ok.injEq, Prod.mk.injEq] at h; rw [← h.1]
 | old :: r, x, vs, y, h => by
   simp only [varsX] at h
   split at h
   ·cases h
   ·split at h
    ·cases h
    ·rename_i vs' y' hv
     simp only [Except.ok.injEq, Prod.mk.injEq] at h
     rw [← h.1, List.length_cons, List.length_cons, varsX_length hv]
theorem setL_getL (s : WS) (o : Nat) (v : Value) (h : s.getL o = v) : s.setL o v = s := by
 subst h
 unfold WS.setL WS.getL
 split <;> rfl
def EndsNew {b : Nat} (M : Mode b) (w : World) (o : Nat) (r : X (List Int × (WS × M.σ))) (e : Ending) (w' : World) : Prop :=
 Fr M.SB w w' ∧ match r with
  | .ok (vs, y) => e = .returned (.tuple #[]) ∧ ∃ av, NewL w w' av vs ∧ On M w' (y.1.setL o av, y.2)
  | .error z => e = .panicked (viol z.1 z.2)
theorem getL_nextX {b : Nat} {M : Mode b} {size o : Nat} {x y : WS × M.σ} (h : nextX M 161 size x = .ok y) : y.1.getL o = x.1.getL o := by
 have := nextX_kept (Or.inr (Or.inr (Or.inr (Or.inr rfl)))) h
 unfold WS.getL
 rw [this.args, this.rets]
theorem list_new {b : Nat} (M : Mode b) (hN : NextOwn M) (hO : NextOther M) (o n : Nat) (ho : o = 159 ∨ o = 160) (x : WS × M.σ) (w : World) (h : On M w x) (hsl : x.1.getL o = nilS) (hn : n ≤ 255)
 (hnew : ∀ y, nextX M 161 1 ({ x.1 with count := 0 }, x.2) = .ok y → ∀ k, w.heap.size ≤ k → ¬ M.S k ∧ ¬ M.N k) :
 Calls Tryd.prog 100 #[.pointer (some ⟨b, 0, none⟩), .pointer (some ⟨b, o, none⟩), .int .i64 n] w (EndsNew M w o (listX M n [] x)) := by
 by_cases hn0 : n = 0
 ·subst hn0
  refine (list_keep M hN hO o 0 ho x w h none 0 b 0 [] (by simpa [nilS] using hsl) rfl (by omega) (fun h => absurd rfl h) (fun i hi => by simp at hi)).mono ?_
  rintro e w' ⟨hf, hr⟩
  refine ⟨hf.mono (fun k _ hk => hk.elim id (fun e => Or.inl e)), ?_⟩
  cases hl : listX M 0 [] x with
  | error z => simp only [hl] at hr; exact hr
  | ok q =>
    obtain ⟨vs, y⟩ := q
    simp only [hl] at hr
    obtain ⟨rfl, hon, -⟩ := hr
    have hvs : vs = [] ∧ y.1.getL o = nilS := by
     unfold listX at hl
     split at hl
     ·cases hl
     ·rename_i y' hy
      split at hl
      ·simp only [List.length_nil, if_true, varsX, Except.ok.injEq, Prod.mk.injEq] at hl
       rw [← hl.1, ← hl.2, getL_nextX hy]
       exact ⟨rfl, hsl⟩
      ·cases hl
    refine ⟨rfl, nilS, Or.inl ⟨hvs.1, rfl⟩, ?_⟩
    rw [setL_getL _ _ _ hvs.2]
    exact hon
 ·refine (list_make M hN hO o n ho x w h none 0 [] (by simpa [nilS] using hsl) (by simp; omega) hn (fun y hy _ => hnew y (by simpa using hy)) (by simp) hn0).mono ?_
  rintro e w' ⟨hf, hr⟩
  refine ⟨hf, ?_⟩
  cases hl : listX M n [] x with
  | error z => simp only [hl] at hr; exact hr
  | ok q =>
    obtain ⟨vs, y⟩ := q
    simp only [hl] at hr
    obtain ⟨rfl, g, hg, hon, hblk⟩ := hr
    have hvs : vs.length = n := by
     unfold listX at hl
     split at hl
     ·cases hl
     ·split at hl
      ·have := varsX_length hl
       rw [if_neg (by simp; omega)] at this
       simpa using this
      ·cases hl
    refine ⟨rfl, .slice (some ⟨g, 0, none⟩) n n, Or.inr ⟨g, hg, by rw [hvs], hblk⟩, hon⟩
end Go.Proofs.YtingenonbkencaaDoor
