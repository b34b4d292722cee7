import Derived.Test.YtmdlebolmhnhaabU3J
namespace Go.Proofs.Ytmdlebolmhnhaab
open Go.RowKit (wrap32 wrap64)
open Go.Maps (Keyed)
set_option linter.unusedVariables false
set_option linter.unusedSimpArgs false

/-- A list of lists, each with where it lies. -/
structure Ls (w : World) (B : Nat) (v : Value) (us : List (Value × List Int)) : Prop where
  row : w.ownsRow B 29 1 v us.length (us.map (·.1))
  inn : ∀ p ∈ us, w.ownsRow B 3 1 p.1 p.2.length (p.2.map vI)

/-- The blocks of such a list. -/
def LsB (v : Value) (us : List (Value × List Int)) (k : Nat) : Prop := v.ownBlock = some k ∨ ∃ p ∈ us, p.1.ownBlock = some k

theorem Ls.fr {S : Nat → Prop} {w w' : World} {B : Nat} {v : Value} {us : List (Value × List Int)} (h : Ls w B v us) (f : Fr S w w') (hS : ∀ k, LsB v us k → ¬ S k) : Ls w' B v us :=
  ⟨ownsRow_fr h.row f (fun j e => hS j (Or.inl e)), fun p hp => ownsRow_fr (h.inn p hp) f (fun j e => hS j (Or.inr ⟨p, hp, e⟩))⟩
theorem Ls.lt {w : World} {B : Nat} {v : Value} {us : List (Value × List Int)} (h : Ls w B v us) {k : Nat} (hk : LsB v us k) : B ≤ k ∧ k < w.heap.size := by
  rcases hk with e | ⟨p, hp, e⟩
  · exact World.ownsRow.lt h.row k e
  · exact World.ownsRow.lt (h.inn p hp) k e

/-- The four memories, the lists that were handed out, and the block that holds them, made since w0. -/
structure Wd (w0 w : World) (wb : Nat) (pb rb : Nat → Nat) (pg : Nat → Gh) (rg : Nat → RG) (pa : Nat → Abs) (ra : Nat → RA) (lv mv : Value) (us us' : List (Value × List Int)) : Prop where
  blk : w.heap[wb]? = some (.cells #[ptr (pb 0), ptr (pb 1), rptr (rb 0), rptr (rb 1), lv, mv] 47)
  base : w0.heap.size ≤ wb
  pm : ∀ i, i < 2 → Mem w (pb i) (pg i) (pa i)
  rm : ∀ i, i < 2 → RMem w (rb i) (rg i) (ra i)
  pn : ∀ i, i < 2 → OwnNew w0.heap.size (pg i)
  rn : ∀ i, i < 2 → ∀ k, (rg i).own k ≠ 0 → w0.heap.size ≤ k
  pp : ∀ i j, i < 2 → j < 2 → i ≠ j → ∀ k, (pg i).own k ≠ 0 → (pg j).own k = 0
  rr : ∀ i j, i < 2 → j < 2 → i ≠ j → ∀ k, (rg i).own k ≠ 0 → (rg j).own k = 0
  pr : ∀ i j, i < 2 → j < 2 → ∀ k, (pg i).own k ≠ 0 → (rg j).own k = 0
  freeP : ∀ i, i < 2 → ∀ k, (k = wb ∨ LsB lv us k ∨ LsB mv us' k) → (pg i).own k = 0
  freeR : ∀ i, i < 2 → ∀ k, (k = wb ∨ LsB lv us k ∨ LsB mv us' k) → (rg i).own k = 0
  ll : Ls w w0.heap.size lv us
  lm : Ls w w0.heap.size mv us'
  same : us.map (·.2) = us'.map (·.2)
  part : ∀ k, lv.ownBlock = some k → mv.ownBlock ≠ some k
  wl : ∀ k, (LsB lv us k ∨ LsB mv us' k) → k ≠ wb
  fr : Fr (fun _ => False) w0 w

/-- At one place another. -/
def at1 {α : Type} (f : Nat → α) (i : Nat) (x : α) : Nat → α := fun j => if j = i then x else f j
theorem at1_self {α : Type} (f : Nat → α) (i : Nat) (x : α) : at1 f i x i = x := if_pos rfl
theorem at1_ne {α : Type} (f : Nat → α) {i j : Nat} (x : α) (h : j ≠ i) : at1 f i x j = f j := if_neg h

section
variable {w0 w w' : World} {wb : Nat} {pb rb : Nat → Nat} {pg : Nat → Gh} {rg : Nat → RG} {pa : Nat → Abs} {ra : Nat → RA} {lv mv : Value} {us us' : List (Value × List Int)}

theorem Wd.ltW (h : Wd w0 w wb pb rb pg rg pa ra lv mv us us') {k : Nat} (hk : k = wb ∨ LsB lv us k ∨ LsB mv us' k) : k < w.heap.size := by
  rcases hk with rfl | e | e
  · exact heap_lt h.blk
  · exact (h.ll.lt e).2
  · exact (h.lm.lt e).2

theorem Wd.keep (h : Wd w0 w wb pb rb pg rg pa ra lv mv us us') (f : Fr (fun _ => False) w w') : Wd w0 w' wb pb rb pg rg pa ra lv mv us us' where
  blk := (f.block wb (heap_lt h.blk) (fun e => e)).trans h.blk
  base := h.base
  pm := fun i hi => (h.pm i hi).keep f
  rm := fun i hi => (h.rm i hi).keep f
  pn := h.pn
  rn := h.rn
  pp := h.pp
  rr := h.rr
  pr := h.pr
  freeP := h.freeP
  freeR := h.freeR
  ll := h.ll.fr f (fun _ _ e => e)
  lm := h.lm.fr f (fun _ _ e => e)
  same := h.same
  part := h.part
  wl := h.wl
  fr := h.fr.trans f

/-- A call of the program's memory i. -/
theorem Wd.pcall (h : Wd w0 w wb pb rb pg rg pa ra lv mv us us') {i : Nat} (hi : i < 2) {g2 : Gh} {a2 : Abs} (hM : Mem w' (pb i) g2 a2) (f : Fr (fun j => (pg i).own j ≠ 0) w w') (x : Ext w.heap.size (pg i) g2) :
    Wd w0 w' wb pb rb (at1 pg i g2) rg (at1 pa i a2) ra lv mv us us' := by
  have fW : ∀ k, (k = wb ∨ LsB lv us k ∨ LsB mv us' k) → ¬ (pg i).own k ≠ 0 := fun k hk e => e (h.freeP i hi k hk)
  have new : ∀ k, g2.own k ≠ 0 → (pg i).own k ≠ 0 ∨ w.heap.size ≤ k := fun k hk => by
    rcases Nat.lt_or_ge k w.heap.size with hl | hl
    · rw [x k hl] at hk; exact Or.inl hk
    · exact Or.inr hl
  have zP : ∀ j, j < 2 → ∀ k, w.heap.size ≤ k → (pg j).own k = 0 := fun j hj k hk => by
    by_cases e : (pg j).own k = 0
    · exact e
    · have := (h.pm j hj).olt k e; omega
  have zR : ∀ j, j < 2 → ∀ k, w.heap.size ≤ k → (rg j).own k = 0 := fun j hj k hk => by
    by_cases e : (rg j).own k = 0
    · exact e
    · have := (h.rm j hj).olt k e; omega
  refine ⟨(f.block wb (heap_lt h.blk) (fW wb (Or.inl rfl))).trans h.blk, h.base, fun j hj => ?_, fun j hj => (h.rm j hj).fr' f (fun k hk e => hk (h.pr i j hi hj k e)), fun j hj => ?_, h.rn, fun j l hj hl hne k hk => ?_, h.rr, fun j l hj hl k hk => ?_, fun j hj k hk => ?_, h.freeR, h.ll.fr f (fun k hk => fW k (Or.inr (Or.inl hk))), h.lm.fr f (fun k hk => fW k (Or.inr (Or.inr hk))), h.same, h.part, h.wl, h.fr.anew f (h.pn i hi)⟩
  · by_cases e : j = i
    · subst e; rw [at1_self, at1_self]; exact hM
    · rw [at1_ne _ _ e, at1_ne _ _ e]
      exact (h.pm j hj).fr f (fun k hk e2 => e2 (h.pp j i hj hi e k hk))
  · by_cases e : j = i
    · subst e; rw [at1_self]; exact (h.pn j hj).ext x h.fr.size
    · rw [at1_ne _ _ e]; exact h.pn j hj
  · by_cases e : j = i
    · subst e
      rw [at1_self] at hk
      rw [at1_ne _ _ (Ne.symm hne)]
      rcases new k hk with h1 | h1
      · exact h.pp j l hj hl hne k h1
      · exact zP l hl k h1
    · rw [at1_ne _ _ e] at hk
      by_cases e2 : l = i
      · subst e2
        rw [at1_self, x k ((h.pm j hj).olt k hk)]
        exact h.pp j l hj hl hne k hk
      · rw [at1_ne _ _ e2]; exact h.pp j l hj hl hne k hk
  · by_cases e : j = i
    · subst e
      rw [at1_self] at hk
      rcases new k hk with h1 | h1
      · exact h.pr j l hj hl k h1
      · exact zR l hl k h1
    · rw [at1_ne _ _ e] at hk; exact h.pr j l hj hl k hk
  · by_cases e : j = i
    · subst e
      rw [at1_self, x k (h.ltW hk)]
      exact h.freeP j hj k hk
    · rw [at1_ne _ _ e]; exact h.freeP j hj k hk

/-- A call of the document's memory i. -/
theorem Wd.rcall (h : Wd w0 w wb pb rb pg rg pa ra lv mv us us') {i : Nat} (hi : i < 2) {g2 : RG} {a2 : RA} (hM : RMem w' (rb i) g2 a2) (f : Fr (fun j => (rg i).own j ≠ 0) w w') (x : RExt w.heap.size (rg i) g2) :
    Wd w0 w' wb pb rb pg (at1 rg i g2) pa (at1 ra i a2) lv mv us us' := by
  have fW : ∀ k, (k = wb ∨ LsB lv us k ∨ LsB mv us' k) → ¬ (rg i).own k ≠ 0 := fun k hk e => e (h.freeR i hi k hk)
  have new : ∀ k, g2.own k ≠ 0 → (rg i).own k ≠ 0 ∨ w.heap.size ≤ k := fun k hk => by
    rcases Nat.lt_or_ge k w.heap.size with hl | hl
    · rw [x k hl] at hk; exact Or.inl hk
    · exact Or.inr hl
  have zP : ∀ j, j < 2 → ∀ k, w.heap.size ≤ k → (pg j).own k = 0 := fun j hj k hk => by
    by_cases e : (pg j).own k = 0
    · exact e
    · have := (h.pm j hj).olt k e; omega
  have zR : ∀ j, j < 2 → ∀ k, w.heap.size ≤ k → (rg j).own k = 0 := fun j hj k hk => by
    by_cases e : (rg j).own k = 0
    · exact e
    · have := (h.rm j hj).olt k e; omega
  have prS : ∀ j, j < 2 → ∀ k, (rg i).own k ≠ 0 → (pg j).own k = 0 := fun j hj k hk => by
    by_cases e : (pg j).own k = 0
    · exact e
    · exact absurd (h.pr j i hj hi k e) hk
  refine ⟨(f.block wb (heap_lt h.blk) (fW wb (Or.inl rfl))).trans h.blk, h.base, fun j hj => (h.pm j hj).fr f (fun k hk e => hk (prS j hj k e)), fun j hj => ?_, h.pn, fun j hj k hk => ?_, h.pp, fun j l hj hl hne k hk => ?_, fun j l hj hl k hk => ?_, h.freeP, fun j hj k hk => ?_, h.ll.fr f (fun k hk => fW k (Or.inr (Or.inl hk))), h.lm.fr f (fun k hk => fW k (Or.inr (Or.inr hk))), h.same, h.part, h.wl, h.fr.then f (fun j hj e => by have := h.rn i hi j e; omega)⟩
  · by_cases e : j = i
    · subst e; rw [at1_self, at1_self]; exact hM
    · rw [at1_ne _ _ e, at1_ne _ _ e]
      exact (h.rm j hj).fr' f (fun k hk e2 => e2 (h.rr j i hj hi e k hk))
  · by_cases e : j = i
    · subst e
      rw [at1_self] at hk
      rcases new k hk with h1 | h1
      · exact h.rn j hj k h1
      · have := h.fr.size; omega
    · rw [at1_ne _ _ e] at hk; exact h.rn j hj k hk
  · by_cases e : j = i
    · subst e
      rw [at1_self] at hk
      rw [at1_ne _ _ (Ne.symm hne)]
      rcases new k hk with h1 | h1
      · exact h.rr j l hj hl hne k h1
      · exact zR l hl k h1
    · rw [at1_ne _ _ e] at hk
      by_cases e2 : l = i
      · subst e2
        rw [at1_self, x k ((h.rm j hj).olt k hk)]
        exact h.rr j l hj hl hne k hk
      · rw [at1_ne _ _ e2]; exact h.rr j l hj hl hne k hk
  · by_cases e : l = i
    · subst e
      rw [at1_self, x k ((h.pm j hj).olt k hk)]
      exact h.pr j l hj hl k hk
    · rw [at1_ne _ _ e]; exact h.pr j l hj hl k hk
  · by_cases e : j = i
    · subst e
      rw [at1_self, x k (h.ltW hk)]
      exact h.freeR j hj k hk
    · rw [at1_ne _ _ e]; exact h.freeR j hj k hk

end

end Go.Proofs.Ytmdlebolmhnhaab
