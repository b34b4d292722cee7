import Derived.Test.YtjmbfjaahadbhaaGreatDoorQB5J
set_option linter.unusedVariables false
set_option linter.unusedSimpArgs false
namespace Go.Proofs.YtjmbfjaahadbhaaGreatDoor
open Go.RowKit (wrap32 wrap64)

/-- What is asked of an instruction behind its operation, ahead of its things. -/
def frontOk {b : Nat} (M : Mode b) (ends makes nb : Bool) (i : Nat) (p : Int) (y : WS × M.σ) : X (WS × M.σ) :=
  if nb = false then .error (1, p)
  else if (ends || decide ((i : Int) < y.1.len - 1)) = false then .error (19, p)
  else if makes then locX M 1 p y else .ok y

/-- One thing is done with, or the walk is over. -/
def StepR (J : World → Prop) (Post : Ending → World → Prop) (e : Ending) (w' : World) : Prop :=
  (e = .returned (.tuple #[]) ∧ J w') ∨ ∃ c, e = .panicked c ∧ Post (.panicked c) w'


def thenX {α β : Type} (c : X α) (p : α → X β) : X β := match c with | .ok y => p y | .error z => .error z

/-- What the things of an instruction leave as it was. -/
structure Kept (s s' : WS) : Prop where
  num : s'.num = s.num
  globals : s'.globals = s.globals
  funcs : s'.funcs = s.funcs
  fP : s'.fP = s.fP
  fR : s'.fR = s.fR
  fV : s'.fV = s.fV
  fC : s'.fC = s.fC
  len : s'.len = s.len
  op : s'.op = s.op
  args : s'.args = s.args
  rets : s'.rets = s.rets

theorem Kept.refl (s : WS) : Kept s s := ⟨rfl, rfl, rfl, rfl, rfl, rfl, rfl, rfl, rfl, rfl, rfl⟩
theorem Kept.trans {a b c : WS} (h : Kept a b) (k : Kept b c) : Kept a c :=
  ⟨k.num.trans h.num, k.globals.trans h.globals, k.funcs.trans h.funcs, k.fP.trans h.fP, k.fR.trans h.fR, k.fV.trans h.fV, k.fC.trans h.fC, k.len.trans h.len, k.op.trans h.op, k.args.trans h.args, k.rets.trans h.rets⟩

theorem nextX_kept {b : Nat} {M : Mode b} {o size : Nat} {x y : WS × M.σ} (ho : o = 155 ∨ o = 156 ∨ o = 157 ∨ o = 158 ∨ o = 161) (h : nextX M o size x = .ok y) : Kept x.1 y.1 := by
  obtain ⟨v, st, rfl⟩ := nextX_num h
  rcases ho with rfl | rfl | rfl | rfl | rfl <;> exact ⟨rfl, rfl, rfl, rfl, rfl, rfl, rfl, rfl, rfl, rfl, rfl⟩

theorem askX_kept {b : Nat} {M : Mode b} {o size : Nat} {c : WS → Bool} {er : Int} {x y : WS × M.σ} (ho : o = 155 ∨ o = 156 ∨ o = 157 ∨ o = 158 ∨ o = 161) (h : askX M o size c er x = .ok y) : Kept x.1 y.1 := by
  unfold askX at h
  split at h
  · rename_i y' hy
    split at h
    · cases h; exact nextX_kept ho hy
    · cases h
  · cases h

theorem locX_kept {b : Nat} {M : Mode b} {n p : Int} {x y : WS × M.σ} (h : locX M n p x = .ok y) : Kept x.1 y.1 := by
  unfold locX at h
  split at h
  · cases h; exact ⟨rfl, rfl, rfl, rfl, rfl, rfl, rfl, rfl, rfl, rfl, rfl⟩
  · cases h

theorem frontOk_kept {b : Nat} {M : Mode b} {ends makes nb : Bool} {i : Nat} {p : Int} {x y : WS × M.σ} (h : frontOk M ends makes nb i p x = .ok y) : Kept x.1 y.1 := by
  unfold frontOk at h
  split at h
  · cases h
  · split at h
    · cases h
    · split at h
      · exact locX_kept h
      · cases h; exact Kept.refl _

/-- Where an instruction stands behind some of its things. -/
def Stage {b : Nat} (M : Mode b) (w : World) (s0 : WS) (c : X (WS × M.σ)) (w1 : World) : Prop :=
  ∃ y, c = .ok y ∧ Fr M.SB w w1 ∧ On M w1 y ∧ Kept s0 y.1

theorem Stage.lies {b : Nat} {M : Mode b} {w : World} {s0 : WS} {c : X (WS × M.σ)} {w1 : World} (h : Stage M w s0 c w1) : ∃ s, Lies w1 b s := let ⟨y, _, _, h, _⟩ := h; ⟨y.1, h.1⟩
theorem Stage.drew {b : Nat} {M : Mode b} {w : World} {s0 : WS} {c : X (WS × M.σ)} {w1 : World} (h : Stage M w s0 c w1) : Stage M w s0 c w1.drew := let ⟨y, h1, h2, h3, h4⟩ := h; ⟨y, h1, h2.drew, h3.drew, h4⟩

theorem stage_step {b : Nat} {M : Mode b} {w : World} {s0 : WS} {c : X (WS × M.σ)} {w1 : World} {f : Nat} {args : Array Value} {p : WS × M.σ → X (WS × M.σ)} {Post : Ending → World → Prop}
    (hk : ∀ y y', p y = .ok y' → Kept y.1 y'.1) (hE : ∀ z w', thenX c p = .error z → Fr M.SB w w' → Post (.panicked (viol z.1 z.2)) w')
    (hcall : ∀ y, On M w1 y → Kept s0 y.1 → Calls Tryz.prog f args w1 (Ends M w1 (p y))) (h : Stage M w s0 c w1) : Calls Tryz.prog f args w1 (StepR (Stage M w s0 (thenX c p)) Post) := by
  obtain ⟨y, rfl, hf, hon, hkp⟩ := h
  refine (hcall y hon hkp).mono ?_
  rintro e w' ⟨hf', hr⟩
  cases hp : p y with
  | error z =>
    simp only [hp] at hr
    subst hr
    exact Or.inr ⟨_, rfl, hE z w' hp (hf.trans hf')⟩
  | ok y' =>
    simp only [hp] at hr
    obtain ⟨rfl, hon'⟩ := hr
    exact Or.inl ⟨rfl, y', hp, hf.trans hf', hon', hkp.trans (hk y y' hp)⟩

theorem stage_end {b : Nat} {M : Mode b} {w : World} {s0 : WS} {c : X (WS × M.σ)} {w1 : World} (h : Stage M w s0 c w1) : Ends M w c (.returned (.tuple #[])) w1 := by
  obtain ⟨y, rfl, hf, hon, -⟩ := h
  exact ⟨hf, rfl, hon⟩

theorem ends_error {b : Nat} {M : Mode b} {w w' : World} {c : X (WS × M.σ)} {z : Int × Int} (h : c = .error z) (hf : Fr M.SB w w') : Ends M w c (.panicked (viol z.1 z.2)) w' := by
  subst h; exact ⟨hf, rfl⟩

/-- The things that an instruction may have. -/
def varPart {b : Nat} (M : Mode b) (o : Nat) (x : WS × M.σ) : X (WS × M.σ) := askX M o 1 (fun s => decide (0 ≤ s.get o ∧ s.get o ≤ IntKind.i64.wrap (s.fV - 1))) 13 x
def fieldsPart {b : Nat} (M : Mode b) (x : WS × M.σ) : X (WS × M.σ) := askX M 158 1 (fun s => decide (1 ≤ s.n ∧ s.n ≤ 8)) 17 x
def fieldPart {b : Nat} (M : Mode b) (x : WS × M.σ) : X (WS × M.σ) := askX M 158 1 (fun s => decide (0 ≤ s.n ∧ s.n ≤ 7)) 17 x
def globalPart {b : Nat} (M : Mode b) (x : WS × M.σ) : X (WS × M.σ) := askX M 158 1 (fun s => decide (0 ≤ s.n ∧ s.n ≤ IntKind.i64.wrap (s.globals - 1))) 18 x
def targetPart {b : Nat} (M : Mode b) (x : WS × M.σ) : X (WS × M.σ) := askX M 158 2 (fun s => decide (0 ≤ s.n ∧ s.n ≤ IntKind.i64.wrap (s.len - 1))) 16 x
def intPart {b : Nat} (M : Mode b) (x : WS × M.σ) : X (WS × M.σ) := nextX M 158 8 x

/-- The things of the operations that have no lists. -/
def partsX {b : Nat} (M : Mode b) (op : Nat) (c : X (WS × M.σ)) : X (WS × M.σ) :=
  match op with
  | 1 => (thenX (thenX c (varPart M 155)) (intPart M))
  | 2 => (thenX (thenX c (varPart M 155)) (varPart M 156))
  | 3 => (thenX (thenX (thenX c (varPart M 155)) (varPart M 156)) (varPart M 157))
  | 4 => (thenX (thenX (thenX c (varPart M 155)) (varPart M 156)) (varPart M 157))
  | 5 => (thenX (thenX c (varPart M 155)) (varPart M 156))
  | 6 => (thenX (thenX c (varPart M 155)) (fieldsPart M))
  | 7 => (thenX (thenX (thenX c (varPart M 155)) (varPart M 156)) (fieldPart M))
  | 8 => (thenX (thenX (thenX c (varPart M 155)) (varPart M 156)) (fieldPart M))
  | 9 => (thenX (thenX c (varPart M 155)) (globalPart M))
  | 10 => (thenX (thenX c (varPart M 156)) (globalPart M))
  | 12 => (thenX c (varPart M 156))
  | 13 => (thenX c (targetPart M))
  | 14 => (thenX (thenX c (varPart M 156)) (targetPart M))
  | 16 => (thenX c (varPart M 155))
  | 17 => (thenX (thenX (thenX c (varPart M 155)) (varPart M 156)) (varPart M 157))
  | _ => c

end Go.Proofs.YtjmbfjaahadbhaaGreatDoor
