import Derived.Test.YtingenonbkencaaDoorQE1
namespace Go.Proofs.YtingenonbkencaaDoor
open Go.RowKit (wrap32 wrap64)
set_option linter.unusedVariables false
set_option linter.unusedSimpArgs false
set_option maxRecDepth 100000
set_option maxHeartbeats 1000000
def NewL (w w' : World) (av : Value) (vs : List Int) : Prop :=
  (vs = [] ∧ av = nilS) ∨ ∃ g, w.heap.size ≤ g ∧ av = .slice (some ⟨g, 0, none⟩) vs.length vs.length ∧ w'.heap[g]? = some (.cells (vs.map vI).toArray 3)
theorem varsX_length {b : Nat} {M : Mode b} : ∀ {l : List Int} {x : WS × M.σ} {vs : List Int} {y : WS × M.σ}, varsX M l x = .ok (vs, y) → vs.length = l.length
  | [], _, _, _, h => by simp only [varsX, Except.ok.injEq, Prod.mk.injEq] at h; rw [← h.1]
  | old :: r, x, vs, y, h => by
    simp only [varsX] at h
    split at h
    · cases h
    · split at h
      · cases h
      · rename_i vs' y' hv
        simp only [Except.ok.injEq, Prod.mk.injEq] at h
        rw [← h.1, List.length_cons, List.length_cons, varsX_length hv]
theorem setL_getL (s : WS) (o : Nat) (v : Value) (h : s.getL o = v) : s.setL o v = s := by
  subst h
  unfold WS.setL WS.getL
  split <;> rfl
def EndsNew {b : Nat} (M : Mode b) (w : World) (o : Nat) (r : X (List Int × (WS × M.σ))) (e : Ending) (w' : World) : Prop :=
  Fr M.SB w w' ∧ match r with
    | .ok (vs, y) => e = .returned (.tuple #[]) ∧ ∃ av, NewL w w' av vs ∧ On M w' (y.1.setL o av, y.2)
    | .error z => e = .panicked (viol z.1 z.2)
theorem getL_nextX {b : Nat} {M : Mode b} {size o : Nat} {x y : WS × M.σ} (h : nextX M 161 size x = .ok y) : y.1.getL o = x.1.getL o := by
  have := nextX_kept (Or.inr (Or.inr (Or.inr (Or.inr rfl)))) h
  unfold WS.getL
  rw [this.args, this.rets]
theorem list_new {b : Nat} (M : Mode b) (hN : NextOwn M) (hO : NextOther M) (o n : Nat) (ho : o = 159 ∨ o = 160) (x : WS × M.σ) (w : World) (h : On M w x) (hsl : x.1.getL o = nilS) (hn : n ≤ 255)
    (hnew : ∀ y, nextX M 161 1 ({ x.1 with count := 0 }, x.2) = .ok y → ∀ k, w.heap.size ≤ k → ¬ M.S k ∧ ¬ M.N k) :
    Calls Tryd.prog 100 #[.pointer (some ⟨b, 0, none⟩), .pointer (some ⟨b, o, none⟩), .int .i64 n] w (EndsNew M w o (listX M n [] x)) := by
  by_cases hn0 : n = 0
  · subst hn0
    refine (list_keep M hN hO o 0 ho x w h none 0 b 0 [] (by simpa [nilS] using hsl) rfl (by omega) (fun h => absurd rfl h) (fun i hi => by simp at hi)).mono ?_
    rintro e w' ⟨hf, hr⟩
    refine ⟨hf.mono (fun k _ hk => hk.elim id (fun e => Or.inl e)), ?_⟩
    cases hl : listX M 0 [] x with
    | error z => simp only [hl] at hr; exact hr
    | ok q =>
      obtain ⟨vs, y⟩ := q
      simp only [hl] at hr
      obtain ⟨rfl, hon, -⟩ := hr
      have hvs : vs = [] ∧ y.1.getL o = nilS := by
        unfold listX at hl
        split at hl
        · cases hl
        · rename_i y' hy
          split at hl
          · simp only [List.length_nil, if_true, varsX, Except.ok.injEq, Prod.mk.injEq] at hl
            rw [← hl.1, ← hl.2, getL_nextX hy]
            exact ⟨rfl, hsl⟩
          · cases hl
      refine ⟨rfl, nilS, Or.inl ⟨hvs.1, rfl⟩, ?_⟩
      rw [setL_getL _ _ _ hvs.2]
      exact hon
  · refine (list_make M hN hO o n ho x w h none 0 [] (by simpa [nilS] using hsl) (by simp; omega) hn (fun y hy _ => hnew y (by simpa using hy)) (by simp) hn0).mono ?_
    rintro e w' ⟨hf, hr⟩
    refine ⟨hf, ?_⟩
    cases hl : listX M n [] x with
    | error z => simp only [hl] at hr; exact hr
    | ok q =>
      obtain ⟨vs, y⟩ := q
      simp only [hl] at hr
      obtain ⟨rfl, g, hg, hon, hblk⟩ := hr
      have hvs : vs.length = n := by
        unfold listX at hl
        split at hl
        · cases hl
        · split at hl
          · have := varsX_length hl
            rw [if_neg (by simp; omega)] at this
            simpa using this
          · cases hl
      refine ⟨rfl, .slice (some ⟨g, 0, none⟩) n n, Or.inr ⟨g, hg, by rw [hvs], hblk⟩, hon⟩
theorem askInstr_short {b : Nat} (M : Mode b) (hN : NextOwn M) (x : WS × M.σ) (w : World) (h : On M w x) (i : Int) (z : Int × Int) (hx : nextX M 154 1 x = .error z) :
    Calls Tryd.prog 65 #[.pointer (some ⟨b, 0, none⟩), .int .i64 i] w fun e w' => e = .panicked (viol z.1 z.2) ∧ Fr M.SB w w' := by
  go_enter Tryd.func65, Tryd.ntmps65
  go_wp2_with fail
  refine (hN 154 (by simp [places]) x 1 _ h (by omega) (by omega)).mono ?_
  rintro e w1 ⟨hf1, hres⟩
  simp only [hx] at hres
  subst hres
  clear hx
  go_wp2_with fail
  exact ⟨rfl, rfl, hf1⟩
theorem askInstr_noOp {b : Nat} (M : Mode b) (hN : NextOwn M) (x y : WS × M.σ) (w : World) (h : On M w x) (i : Int) (hx : nextX M 154 1 x = .ok y) (hk : ¬ (1 ≤ y.1.op ∧ y.1.op ≤ 17)) :
    Calls Tryd.prog 65 #[.pointer (some ⟨b, 0, none⟩), .int .i64 i] w fun e w' => e = .panicked (viol 12 x.1.at') ∧ Fr M.SB w w' := by
  have hk' : decide (1 ≤ y.1.op ∧ y.1.op ≤ 17) = false := by simpa using hk
  go_enter Tryd.func65, Tryd.ntmps65
  go_wp2_with fail
  refine (hN 154 (by simp [places]) x 1 _ h (by omega) (by omega)).mono ?_
  rintro e w1 ⟨hf1, hres⟩
  simp only [hx] at hres
  obtain ⟨rfl, hon1⟩ := hres
  have c154 : w1.cell? ⟨b, 154, none⟩ = some (vI y.1.op) := hon1.1.facts.2.2.2.2.2.2.2.2.2.2.1
  clear hx hk
  go_wp2_with fail
  refine (within_any _ _ _ _).mono ?_
  rintro e w' ⟨rfl, rfl⟩
  rw [hk']
  go_wp2_with fail
  refine (must_false 12 x.1.at' _).mono ?_
  rintro e w' ⟨rfl, rfl⟩
  go_wp2_with fail
  exact ⟨rfl, rfl, hf1⟩
def HeadsAt (w : World) (fb fo : Nat) (heads : List (Nat × Nat)) : Prop :=
  ∀ j, (h : j < heads.length) → w.cell? ⟨fb, fo + j * 4, none⟩ = some (vI (heads[j].1 : Nat)) ∧ w.cell? ⟨fb, fo + j * 4 + 1, none⟩ = some (vI (heads[j].2 : Nat)) ∧ heads[j].1 ≤ 8 ∧ heads[j].2 ≤ 4
theorem HeadsAt.fr {S : Nat → Prop} {w w' : World} {fb fo : Nat} {heads : List (Nat × Nat)} (h : HeadsAt w fb fo heads) (f : Fr S w w') (hb : fb < w.heap.size) (hS : ¬ S fb) : HeadsAt w' fb fo heads := fun j hj =>
  ⟨(f.cell hb hS).trans (h j hj).1, (f.cell hb hS).trans (h j hj).2.1, (h j hj).2.2⟩
theorem NewL.fr {S : Nat → Prop} {w w1 w' : World} {av : Value} {vs : List Int} (h : NewL w w1 av vs) (f : Fr S w1 w') (hS : ∀ k, w.heap.size ≤ k → k < w1.heap.size → ¬ S k) : NewL w w' av vs := by
  rcases h with h | ⟨g, hg, ha, hb⟩
  · exact Or.inl h
  · have hlt : g < w1.heap.size := (Array.getElem?_eq_some_iff.1 hb).1
    exact Or.inr ⟨g, hg, ha, by rw [f.block g hlt (hS g hg hlt)]; exact hb⟩
theorem NewL.mono {w w1 w' : World} {av : Value} {vs : List Int} (h : NewL w1 w' av vs) (hs : w.heap.size ≤ w1.heap.size) : NewL w w' av vs := by
  rcases h with h | ⟨g, hg, ha, hb⟩
  · exact Or.inl h
  · exact Or.inr ⟨g, Nat.le_trans hs hg, ha, hb⟩
theorem nextX_setL {b : Nat} (M : Mode b) (o v size) (q : Nat) (hq : q = 161) (s : WS) (st : M.σ) :
    nextX M q size (s.setL o v, st) = match nextX M q size (s, st) with | .ok y => .ok (y.1.setL o v, y.2) | .error z => .error z := by
  subst hq
  by_cases h : o = 159
  · have e : ∀ s : WS, s.setL o v = { s with args := v } := fun s => by unfold WS.setL; rw [if_pos h]
    have g : ∀ s : WS, s.get 161 = s.count := fun _ => rfl
    simp only [e, nextX, g]
    cases M.eff st s.at' size s.count with
    | error z => rfl
    | ok q => rfl
  · have e : ∀ s : WS, s.setL o v = { s with rets := v } := fun s => by unfold WS.setL; rw [if_neg h]
    have g : ∀ s : WS, s.get 161 = s.count := fun _ => rfl
    simp only [e, nextX, g]
    cases M.eff st s.at' size s.count with
    | error z => rfl
    | ok q => rfl
end Go.Proofs.YtingenonbkencaaDoor
