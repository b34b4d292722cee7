import Derived.Test.YtmdlebolmhnhaabY2
namespace Go.Proofs.Ytmdlebolmhnhaab
open Go.RowKit (wrap32 wrap64)
open Go.Maps (Keyed)
set_option linter.unusedVariables false
set_option linter.unusedSimpArgs false

abbrev nilP : Value := .pointer none
/-- The world's block, of which so many are there. -/
def cellsK (kp kr : Nat) (pb rb : Nat → Nat) : Array Value :=
  #[if 0 < kp then ptr (pb 0) else nilP, if 1 < kp then ptr (pb 1) else nilP, if 0 < kr then rptr (rb 0) else nilP, if 1 < kr then rptr (rb 1) else nilP, .slice none 0 0, .slice none 0 0]

/-- The first memories of a world. -/
structure Wk (kp kr : Nat) (w0 w : World) (wb : Nat) (pb rb : Nat → Nat) (pg : Nat → Gh) (rg : Nat → RG) (pa : Nat → Abs) (ra : Nat → RA) : Prop where
  blk : w.heap[wb]? = some (.cells (cellsK kp kr pb rb) 47)
  base : w0.heap.size ≤ wb
  pm : ∀ i, i < kp → Mem w (pb i) (pg i) (pa i)
  rm : ∀ i, i < kr → RMem w (rb i) (rg i) (ra i)
  pn : ∀ i, i < kp → OwnNew w0.heap.size (pg i)
  rn : ∀ i, i < kr → ∀ k, (rg i).own k ≠ 0 → w0.heap.size ≤ k
  pp : ∀ i j, i < kp → j < kp → i ≠ j → ∀ k, (pg i).own k ≠ 0 → (pg j).own k = 0
  rr : ∀ i j, i < kr → j < kr → i ≠ j → ∀ k, (rg i).own k ≠ 0 → (rg j).own k = 0
  pr : ∀ i j, i < kp → j < kr → ∀ k, (pg i).own k ≠ 0 → (rg j).own k = 0
  freeP : ∀ i, i < kp → (pg i).own wb = 0
  freeR : ∀ i, i < kr → (rg i).own wb = 0
  fr : Fr (fun _ => False) w0 w

section
variable {kp kr : Nat} {w0 w w' : World} {wb : Nat} {pb rb : Nat → Nat} {pg : Nat → Gh} {rg : Nat → RG} {pa : Nat → Abs} {ra : Nat → RA}

theorem Wk.keep (h : Wk kp kr w0 w wb pb rb pg rg pa ra) (f : Fr (fun _ => False) w w') : Wk kp kr w0 w' wb pb rb pg rg pa ra :=
  ⟨(f.block wb (heap_lt h.blk) (fun e => e)).trans h.blk, h.base, fun i hi => (h.pm i hi).keep f, fun i hi => (h.rm i hi).keep f, h.pn, h.rn, h.pp, h.rr, h.pr, h.freeP, h.freeR, h.fr.trans f⟩

theorem Wk.zP (h : Wk kp kr w0 w wb pb rb pg rg pa ra) : ∀ j, j < kp → ∀ k, w.heap.size ≤ k → (pg j).own k = 0 := fun j hj k hk => by
  by_cases e : (pg j).own k = 0
  · exact e
  · have := (h.pm j hj).olt k e; omega
theorem Wk.zR (h : Wk kp kr w0 w wb pb rb pg rg pa ra) : ∀ j, j < kr → ∀ k, w.heap.size ≤ k → (rg j).own k = 0 := fun j hj k hk => by
  by_cases e : (rg j).own k = 0
  · exact e
  · have := (h.rm j hj).olt k e; omega

theorem Wk.pcall (h : Wk kp kr w0 w wb pb rb pg rg pa ra) {i : Nat} (hi : i < kp) {g2 : Gh} {a2 : Abs} (hM : Mem w' (pb i) g2 a2) (f : Fr (fun j => (pg i).own j ≠ 0) w w') (x : Ext w.heap.size (pg i) g2) :
    Wk kp kr w0 w' wb pb rb (at1 pg i g2) rg (at1 pa i a2) ra := by
  have new : ∀ k, g2.own k ≠ 0 → (pg i).own k ≠ 0 ∨ w.heap.size ≤ k := fun k hk => by
    rcases Nat.lt_or_ge k w.heap.size with hl | hl
    · rw [x k hl] at hk; exact Or.inl hk
    · exact Or.inr hl
  refine ⟨(f.block wb (heap_lt h.blk) (fun e => e (h.freeP i hi))).trans h.blk, h.base, fun j hj => ?_, fun j hj => (h.rm j hj).fr' f (fun k hk e => hk (h.pr i j hi hj k e)), fun j hj => ?_, h.rn, fun j l hj hl hne k hk => ?_, h.rr, fun j l hj hl k hk => ?_, fun j hj => ?_, h.freeR, h.fr.anew f (h.pn i hi)⟩
  · by_cases e : j = i
    · subst e; rw [at1_self, at1_self]; exact hM
    · rw [at1_ne _ _ e, at1_ne _ _ e]
      exact (h.pm j hj).fr f (fun k hk e2 => e2 (h.pp j i hj hi e k hk))
  · by_cases e : j = i
    · subst e; rw [at1_self]; exact (h.pn j hj).ext x h.fr.size
    · rw [at1_ne _ _ e]; exact h.pn j hj
  · by_cases e : j = i
    · subst e
      rw [at1_self] at hk
      rw [at1_ne _ _ (Ne.symm hne)]
      rcases new k hk with h1 | h1
      · exact h.pp j l hj hl hne k h1
      · exact h.zP l hl k h1
    · rw [at1_ne _ _ e] at hk
      by_cases e2 : l = i
      · subst e2
        rw [at1_self, x k ((h.pm j hj).olt k hk)]
        exact h.pp j l hj hl hne k hk
      · rw [at1_ne _ _ e2]; exact h.pp j l hj hl hne k hk
  · by_cases e : j = i
    · subst e
      rw [at1_self] at hk
      rcases new k hk with h1 | h1
      · exact h.pr j l hj hl k h1
      · exact h.zR l hl k h1
    · rw [at1_ne _ _ e] at hk; exact h.pr j l hj hl k hk
  · by_cases e : j = i
    · subst e
      rw [at1_self, x wb (heap_lt h.blk)]
      exact h.freeP j hj
    · rw [at1_ne _ _ e]; exact h.freeP j hj

theorem Wk.rcall (h : Wk kp kr w0 w wb pb rb pg rg pa ra) {i : Nat} (hi : i < kr) {g2 : RG} {a2 : RA} (hM : RMem w' (rb i) g2 a2) (f : Fr (fun j => (rg i).own j ≠ 0) w w') (x : RExt w.heap.size (rg i) g2) :
    Wk kp kr w0 w' wb pb rb pg (at1 rg i g2) pa (at1 ra i a2) := by
  have new : ∀ k, g2.own k ≠ 0 → (rg i).own k ≠ 0 ∨ w.heap.size ≤ k := fun k hk => by
    rcases Nat.lt_or_ge k w.heap.size with hl | hl
    · rw [x k hl] at hk; exact Or.inl hk
    · exact Or.inr hl
  have prS : ∀ j, j < kp → ∀ k, (rg i).own k ≠ 0 → (pg j).own k = 0 := fun j hj k hk => by
    by_cases e : (pg j).own k = 0
    · exact e
    · exact absurd (h.pr j i hj hi k e) hk
  refine ⟨(f.block wb (heap_lt h.blk) (fun e => e (h.freeR i hi))).trans h.blk, h.base, fun j hj => (h.pm j hj).fr f (fun k hk e => hk (prS j hj k e)), fun j hj => ?_, h.pn, fun j hj k hk => ?_, h.pp, fun j l hj hl hne k hk => ?_, fun j l hj hl k hk => ?_, h.freeP, fun j hj => ?_, h.fr.then f (fun j hj e => by have := h.rn i hi j e; omega)⟩
  · by_cases e : j = i
    · subst e; rw [at1_self, at1_self]; exact hM
    · rw [at1_ne _ _ e, at1_ne _ _ e]
      exact (h.rm j hj).fr' f (fun k hk e2 => e2 (h.rr j i hj hi e k hk))
  · by_cases e : j = i
    · subst e
      rw [at1_self] at hk
      rcases new k hk with h1 | h1
      · exact h.rn j hj k h1
      · have := h.fr.size; omega
    · rw [at1_ne _ _ e] at hk; exact h.rn j hj k hk
  · by_cases e : j = i
    · subst e
      rw [at1_self] at hk
      rw [at1_ne _ _ (Ne.symm hne)]
      rcases new k hk with h1 | h1
      · exact h.rr j l hj hl hne k h1
      · exact h.zR l hl k h1
    · rw [at1_ne _ _ e] at hk
      by_cases e2 : l = i
      · subst e2
        rw [at1_self, x k ((h.rm j hj).olt k hk)]
        exact h.rr j l hj hl hne k hk
      · rw [at1_ne _ _ e2]; exact h.rr j l hj hl hne k hk
  · by_cases e : l = i
    · subst e
      rw [at1_self, x k ((h.pm j hj).olt k hk)]
      exact h.pr j l hj hl k hk
    · rw [at1_ne _ _ e]; exact h.pr j l hj hl k hk
  · by_cases e : j = i
    · subst e
      rw [at1_self, x wb (heap_lt h.blk)]
      exact h.freeR j hj
    · rw [at1_ne _ _ e]; exact h.freeR j hj

/-- One memory of the program's more. -/
theorem Wk.pnew (h : Wk kp kr w0 w wb pb rb pg rg pa ra) (hk2 : kp < 2) {b : Nat} {g2 : Gh} {a2 : Abs} (hM : Mem w' b g2 a2) (f : Fr (fun _ => False) w w') (x : ∀ k, g2.own k ≠ 0 → w.heap.size ≤ k) :
    Wk (kp + 1) kr w0 (w'.setCell ⟨wb, kp, none⟩ (ptr b)) wb (at1 pb kp b) rb (at1 pg kp g2) rg (at1 pa kp a2) ra := by
  have h' := h.keep f
  have fS : Fr (fun j => j = wb) w' (w'.setCell ⟨wb, kp, none⟩ (ptr b)) := Fr.setCell (Fr.refl _ w') _ _ (Or.inl rfl)
  have hwb := heap_lt h.blk
  have lo : ∀ k, k < w.heap.size → g2.own k = 0 := fun k hk => by
    by_cases e : g2.own k = 0
    · exact e
    · have := x k e; omega
  have hb0 := set_of h'.blk kp (ptr b)
  have lt : ∀ j, j < kp + 1 → j ≠ kp → j < kp := fun j hj hne => by omega
  refine ⟨?_, h.base, fun j hj => ?_, fun j hj => (h'.rm j hj).fr' fS (fun k hk e => hk (e ▸ h.freeR j hj)), fun j hj => ?_, h.rn, fun j l hj hl hne k hk => ?_, h.rr, fun j l hj hl k hk => ?_, fun j hj => ?_, h.freeR, h'.fr.then fS (fun j hj e => by have := h.base; omega)⟩
  · rcases (show kp = 0 ∨ kp = 1 by omega) with rfl | rfl
    · exact hb0
    · exact hb0
  · by_cases e : j = kp
    · subst e; rw [at1_self, at1_self, at1_self]; exact hM.fr fS (fun k hk e => hk (e ▸ lo wb hwb))
    · rw [at1_ne _ _ e, at1_ne _ _ e, at1_ne _ _ e]
      exact (h'.pm j (lt j hj e)).fr fS (fun k hk e2 => hk (e2 ▸ h.freeP j (lt j hj e)))
  · by_cases e : j = kp
    · subst e; rw [at1_self]; exact fun k hk => by have := x k hk; have := h.fr.size; omega
    · rw [at1_ne _ _ e]; exact h.pn j (lt j hj e)
  · by_cases e : j = kp
    · subst e
      rw [at1_self] at hk
      rw [at1_ne _ _ (Ne.symm hne)]
      exact h.zP l (lt l hl (Ne.symm hne)) k (x k hk)
    · rw [at1_ne _ _ e] at hk
      by_cases e2 : l = kp
      · subst e2
        rw [at1_self]
        exact lo k ((h.pm j (lt j hj e)).olt k hk)
      · rw [at1_ne _ _ e2]; exact h.pp j l (lt j hj e) (lt l hl e2) hne k hk
  · by_cases e : j = kp
    · subst e
      rw [at1_self] at hk
      exact h.zR l hl k (x k hk)
    · rw [at1_ne _ _ e] at hk; exact h.pr j l (lt j hj e) hl k hk
  · by_cases e : j = kp
    · subst e
      rw [at1_self]
      exact lo wb hwb
    · rw [at1_ne _ _ e]; exact h.freeP j (lt j hj e)

/-- One memory of the document's more. -/
theorem Wk.rnew (h : Wk kp kr w0 w wb pb rb pg rg pa ra) (hk2 : kr < 2) {b : Nat} {g2 : RG} {a2 : RA} (hM : RMem w' b g2 a2) (f : Fr (fun _ => False) w w') (x : ∀ k, g2.own k ≠ 0 → w.heap.size ≤ k) :
    Wk kp (kr + 1) w0 (w'.setCell ⟨wb, 2 + kr, none⟩ (rptr b)) wb pb (at1 rb kr b) pg (at1 rg kr g2) pa (at1 ra kr a2) := by
  have h' := h.keep f
  have fS : Fr (fun j => j = wb) w' (w'.setCell ⟨wb, 2 + kr, none⟩ (rptr b)) := Fr.setCell (Fr.refl _ w') _ _ (Or.inl rfl)
  have hwb := heap_lt h.blk
  have lo : ∀ k, k < w.heap.size → g2.own k = 0 := fun k hk => by
    by_cases e : g2.own k = 0
    · exact e
    · have := x k e; omega
  have hb0 := set_of h'.blk (2 + kr) (rptr b)
  have lt : ∀ j, j < kr + 1 → j ≠ kr → j < kr := fun j hj hne => by omega
  refine ⟨?_, h.base, fun j hj => (h'.pm j hj).fr fS (fun k hk e => hk (e ▸ h.freeP j hj)), fun j hj => ?_, h.pn, fun j hj k hk => ?_, h.pp, fun j l hj hl hne k hk => ?_, fun j l hj hl k hk => ?_, h.freeP, fun j hj => ?_, h'.fr.then fS (fun j hj e => by have := h.base; omega)⟩
  · rcases (show kr = 0 ∨ kr = 1 by omega) with rfl | rfl
    · exact hb0
    · exact hb0
  · by_cases e : j = kr
    · subst e; rw [at1_self, at1_self, at1_self]; exact hM.fr' fS (fun k hk e => hk (e ▸ lo wb hwb))
    · rw [at1_ne _ _ e, at1_ne _ _ e, at1_ne _ _ e]
      exact (h'.rm j (lt j hj e)).fr' fS (fun k hk e2 => hk (e2 ▸ h.freeR j (lt j hj e)))
  · by_cases e : j = kr
    · subst e; rw [at1_self] at hk; have := x k hk; have := h.fr.size; omega
    · rw [at1_ne _ _ e] at hk; exact h.rn j (lt j hj e) k hk
  · by_cases e : j = kr
    · subst e
      rw [at1_self] at hk
      rw [at1_ne _ _ (Ne.symm hne)]
      exact h.zR l (lt l hl (Ne.symm hne)) k (x k hk)
    · rw [at1_ne _ _ e] at hk
      by_cases e2 : l = kr
      · subst e2
        rw [at1_self]
        exact lo k ((h.rm j (lt j hj e)).olt k hk)
      · rw [at1_ne _ _ e2]; exact h.rr j l (lt j hj e) (lt l hl e2) hne k hk
  · by_cases e : l = kr
    · subst e
      rw [at1_self]
      exact lo k ((h.pm j hj).olt k hk)
    · rw [at1_ne _ _ e]; exact h.pr j l hj (lt l hl e) k hk
  · by_cases e : j = kr
    · subst e
      rw [at1_self]
      exact lo wb hwb
    · rw [at1_ne _ _ e]; exact h.freeR j (lt j hj e)

theorem Wk.begin0 (w : World) (pb rb : Nat → Nat) (pg : Nat → Gh) (rg : Nat → RG) (pa : Nat → Abs) (ra : Nat → RA) : Wk 0 0 w (w.alloc (.cells #[nilP, nilP, nilP, nilP, .slice none 0 0, .slice none 0 0] 47)) w.heap.size pb rb pg rg pa ra :=
  ⟨heap_alloc_last w _, Nat.le_refl _, fun _ h => absurd h (Nat.not_lt_zero _), fun _ h => absurd h (Nat.not_lt_zero _), fun _ h => absurd h (Nat.not_lt_zero _), fun _ h => absurd h (Nat.not_lt_zero _), fun _ _ h => absurd h (Nat.not_lt_zero _), fun _ _ h => absurd h (Nat.not_lt_zero _), fun _ _ h => absurd h (Nat.not_lt_zero _), fun _ h => absurd h (Nat.not_lt_zero _), fun _ h => absurd h (Nat.not_lt_zero _), Fr.alloc (Fr.refl _ w) _⟩

theorem Wk.wd (h : Wk 2 2 w0 w wb pb rb pg rg pa ra) : Wd w0 w wb pb rb pg rg pa ra (.slice none 0 0) (.slice none 0 0) [] [] := by
  have no : ∀ k, ¬ LsB (.slice none 0 0) [] k := fun k e => by
    rcases e with e | ⟨p, hp, -⟩
    · cases e
    · cases hp
  refine ⟨h.blk, h.base, h.pm, h.rm, h.pn, h.rn, h.pp, h.rr, h.pr, fun i hi k hk => ?_, fun i hi k hk => ?_, ⟨World.ownsRow_nil _ _ _ _, fun p hp => (by cases hp)⟩, ⟨World.ownsRow_nil _ _ _ _, fun p hp => (by cases hp)⟩, rfl, fun k e => (by cases e), fun k e => ?_, h.fr⟩
  · rcases hk with rfl | e | e
    · exact h.freeP i hi
    · exact absurd e (no k)
    · exact absurd e (no k)
  · rcases hk with rfl | e | e
    · exact h.freeR i hi
    · exact absurd e (no k)
    · exact absurd e (no k)
  · rcases e with e | e
    · exact absurd e (no k)
    · exact absurd e (no k)
end

end Go.Proofs.Ytmdlebolmhnhaab
