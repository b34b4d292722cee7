import Derived.Test.YtmdlebolmhnhaabX3J
namespace Go.Proofs.Ytmdlebolmhnhaab
open Go.RowKit (wrap32 wrap64)
open Go.Maps (Keyed)
set_option linter.unusedVariables false
set_option linter.unusedSimpArgs false

/-- As Wd, but for what the lists hold. -/
structure Wq (w0 w : World) (wb : Nat) (pb rb : Nat → Nat) (pg : Nat → Gh) (rg : Nat → RG) (pa : Nat → Abs) (ra : Nat → RA) (lv mv : Value) (us us' : List (Value × List Int)) : Prop where
  blk : w.heap[wb]? = some (.cells #[ptr (pb 0), ptr (pb 1), rptr (rb 0), rptr (rb 1), lv, mv] 47)
  base : w0.heap.size ≤ wb
  pm : ∀ i, i < 2 → Mem w (pb i) (pg i) (pa i)
  rm : ∀ i, i < 2 → RMem w (rb i) (rg i) (ra i)
  pn : ∀ i, i < 2 → OwnNew w0.heap.size (pg i)
  rn : ∀ i, i < 2 → ∀ k, (rg i).own k ≠ 0 → w0.heap.size ≤ k
  pp : ∀ i j, i < 2 → j < 2 → i ≠ j → ∀ k, (pg i).own k ≠ 0 → (pg j).own k = 0
  rr : ∀ i j, i < 2 → j < 2 → i ≠ j → ∀ k, (rg i).own k ≠ 0 → (rg j).own k = 0
  pr : ∀ i j, i < 2 → j < 2 → ∀ k, (pg i).own k ≠ 0 → (rg j).own k = 0
  freeP : ∀ i, i < 2 → ∀ k, (k = wb ∨ LsB lv us k ∨ LsB mv us' k) → (pg i).own k = 0
  freeR : ∀ i, i < 2 → ∀ k, (k = wb ∨ LsB lv us k ∨ LsB mv us' k) → (rg i).own k = 0
  ll : Ls w w0.heap.size lv us
  lm : Ls w w0.heap.size mv us'
  part : ∀ k, lv.ownBlock = some k → mv.ownBlock ≠ some k
  wl : ∀ k, (LsB lv us k ∨ LsB mv us' k) → k ≠ wb
  fr : Fr (fun _ => False) w0 w

section
variable {w0 w w' : World} {wb : Nat} {pb rb : Nat → Nat} {pg : Nat → Gh} {rg : Nat → RG} {pa : Nat → Abs} {ra : Nat → RA} {lv mv : Value} {us us' : List (Value × List Int)}

theorem Wd.q (h : Wd w0 w wb pb rb pg rg pa ra lv mv us us') : Wq w0 w wb pb rb pg rg pa ra lv mv us us' :=
  ⟨h.blk, h.base, h.pm, h.rm, h.pn, h.rn, h.pp, h.rr, h.pr, h.freeP, h.freeR, h.ll, h.lm, h.part, h.wl, h.fr⟩
theorem Wq.wd (h : Wq w0 w wb pb rb pg rg pa ra lv mv us us') (hs : us.map (·.2) = us'.map (·.2)) : Wd w0 w wb pb rb pg rg pa ra lv mv us us' :=
  ⟨h.blk, h.base, h.pm, h.rm, h.pn, h.rn, h.pp, h.rr, h.pr, h.freeP, h.freeR, h.ll, h.lm, hs, h.part, h.wl, h.fr⟩

theorem Wq.heads (h : Wq w0 w wb pb rb pg rg pa ra lv mv us us') :
    w.cell? ⟨wb, 0, none⟩ = some (ptr (pb 0)) ∧ w.cell? ⟨wb, 1, none⟩ = some (ptr (pb 1)) ∧ w.cell? ⟨wb, 2, none⟩ = some (rptr (rb 0)) ∧ w.cell? ⟨wb, 3, none⟩ = some (rptr (rb 1)) ∧ w.cell? ⟨wb, 4, none⟩ = some lv ∧ w.cell? ⟨wb, 5, none⟩ = some mv := by
  simp only [cell_of h.blk]
  exact ⟨rfl, rfl, rfl, rfl, rfl, rfl⟩

theorem Wq.zero (h : Wq w0 w wb pb rb pg rg pa ra lv mv us us') : (∀ j, j < 2 → ∀ k, w.heap.size ≤ k → (pg j).own k = 0 ∧ (rg j).own k = 0) :=
  fun j hj k hk => ⟨by
    by_cases e : (pg j).own k = 0
    · exact e
    · have := (h.pm j hj).olt k e; omega, by
    by_cases e : (rg j).own k = 0
    · exact e
    · have := (h.rm j hj).olt k e; omega⟩

theorem Wq.ltW (h : Wq w0 w wb pb rb pg rg pa ra lv mv us us') {k : Nat} (hk : k = wb ∨ LsB lv us k ∨ LsB mv us' k) : k < w.heap.size := by
  rcases hk with rfl | e | e
  · exact heap_lt h.blk
  · exact (h.ll.lt e).2
  · exact (h.lm.lt e).2

/-- A block that is none of the memories', nor the world's. -/
def Own0 (wb : Nat) (pg : Nat → Gh) (rg : Nat → RG) (k : Nat) : Prop := k ≠ wb ∧ ∀ i, i < 2 → (pg i).own k = 0 ∧ (rg i).own k = 0

/-- Something else is written. -/
theorem Wq.upd {S : Nat → Prop} (h : Wq w0 w wb pb rb pg rg pa ra lv mv us us') (f : Fr S w w') (hS : ∀ k, S k → Own0 wb pg rg k ∧ lv.ownBlock ≠ some k ∧ mv.ownBlock ≠ some k ∧ w0.heap.size ≤ k)
    (hu : ∀ p ∈ us, w'.ownsRow w0.heap.size 3 1 p.1 p.2.length (p.2.map vI)) (hu' : ∀ p ∈ us', w'.ownsRow w0.heap.size 3 1 p.1 p.2.length (p.2.map vI)) : Wq w0 w' wb pb rb pg rg pa ra lv mv us us' where
  blk := (f.block wb (heap_lt h.blk) (fun e => (hS _ e).1.1 rfl)).trans h.blk
  base := h.base
  pm := fun i hi => (h.pm i hi).fr f (fun k hk e => hk ((hS k e).1.2 i hi).1)
  rm := fun i hi => (h.rm i hi).fr' f (fun k hk e => hk ((hS k e).1.2 i hi).2)
  pn := h.pn
  rn := h.rn
  pp := h.pp
  rr := h.rr
  pr := h.pr
  freeP := h.freeP
  freeR := h.freeR
  ll := ⟨ownsRow_fr h.ll.row f (fun k e es => (hS k es).2.1 e), hu⟩
  lm := ⟨ownsRow_fr h.lm.row f (fun k e es => (hS k es).2.2.1 e), hu'⟩
  part := h.part
  wl := h.wl
  fr := h.fr.then f (fun j hj e => by have := (hS j e).2.2.2; omega)

theorem Wq.fr' {S : Nat → Prop} (h : Wq w0 w wb pb rb pg rg pa ra lv mv us us') (f : Fr S w w') (hS : ∀ k, S k → Own0 wb pg rg k ∧ ¬ LsB lv us k ∧ ¬ LsB mv us' k ∧ w0.heap.size ≤ k) : Wq w0 w' wb pb rb pg rg pa ra lv mv us us' :=
  h.upd f (fun k hk => ⟨(hS k hk).1, fun e => (hS k hk).2.1 (Or.inl e), fun e => (hS k hk).2.2.1 (Or.inl e), (hS k hk).2.2.2⟩)
    (fun p hp => ownsRow_fr (h.ll.inn p hp) f (fun j e es => (hS j es).2.1 (Or.inr ⟨p, hp, e⟩)))
    (fun p hp => ownsRow_fr (h.lm.inn p hp) f (fun j e es => (hS j es).2.2.1 (Or.inr ⟨p, hp, e⟩)))

theorem Wq.keep (h : Wq w0 w wb pb rb pg rg pa ra lv mv us us') (f : Fr (fun _ => False) w w') : Wq w0 w' wb pb rb pg rg pa ra lv mv us us' :=
  h.fr' f (fun _ e => e.elim)

theorem LsB.snoc {v v' : Value} {u : Value} {zs : List Int} {k : Nat} (h : LsB v' (us ++ [(u, zs)]) k) (hv : v'.ownBlock = some k → v.ownBlock = some k ∨ w.heap.size ≤ k) : LsB v us k ∨ w.heap.size ≤ k ∨ u.ownBlock = some k := by
  rcases h with e | ⟨p, hp, e⟩
  · rcases hv e with e | e
    · exact Or.inl (Or.inl e)
    · exact Or.inr (Or.inl e)
  · rcases List.mem_append.1 hp with hp | hp
    · exact Or.inl (Or.inr ⟨p, hp, e⟩)
    · simp at hp
      subst hp
      exact Or.inr (Or.inr e)

/-- One list more among those handed out. -/
theorem Wq.growL {w6 : World} {v6 u : Value} {zs : List Int} (h : Wq w0 w wb pb rb pg rg pa ra lv mv us us') (f : Fr (fun j => lv.ownBlock = some j) w w6) (hown : w6.ownsRow w0.heap.size 29 1 v6 (us.length + 1) (us.map (·.1) ++ [u]))
    (hat : ∀ j, v6.ownBlock = some j → lv.ownBlock = some j ∨ w.heap.size ≤ j) (hu : w.ownsRow w0.heap.size 3 1 u zs.length (zs.map vI)) (hfree : ∀ j, u.ownBlock = some j → Own0 wb pg rg j) :
    Wq w0 (w6.setCell ⟨wb, 4, none⟩ v6) wb pb rb pg rg pa ra v6 mv (us ++ [(u, zs)]) us' := by
  have fS : Fr (fun j => j = wb) w6 (w6.setCell ⟨wb, 4, none⟩ v6) := Fr.setCell (Fr.refl _ w6) _ _ (Or.inl rfl)
  have fT : Fr (fun j => lv.ownBlock = some j ∨ j = wb) w (w6.setCell ⟨wb, 4, none⟩ v6) := (f.mono (fun _ _ e => Or.inl e)).trans (fS.mono (fun _ _ e => Or.inr e))
  have hwb := heap_lt h.blk
  have nwl : lv.ownBlock ≠ some wb := fun e => h.wl wb (Or.inl (Or.inl e)) rfl
  have z : ∀ k, (k = wb ∨ LsB v6 (us ++ [(u, zs)]) k ∨ LsB mv us' k) → (k = wb ∨ LsB lv us k ∨ LsB mv us' k) ∨ w.heap.size ≤ k ∨ u.ownBlock = some k := fun k hk => by
    rcases hk with e | e | e
    · exact Or.inl (Or.inl e)
    · rcases e.snoc (hat k) with e | e
      · exact Or.inl (Or.inr (Or.inl e))
      · exact Or.inr e
    · exact Or.inl (Or.inr (Or.inr e))
  have hb6 : w6.heap[wb]? = _ := (f.block wb hwb nwl).trans h.blk
  have v6wb : v6.ownBlock ≠ some wb := fun e => by
    rcases hat wb e with e | e
    · exact nwl e
    · omega
  refine ⟨set_of hb6 4 v6, h.base, fun i hi => (h.pm i hi).fr fT (fun k hk e => ?_), fun i hi => (h.rm i hi).fr' fT (fun k hk e => ?_), h.pn, h.rn, h.pp, h.rr, h.pr, fun i hi k hk => ?_, fun i hi k hk => ?_, ⟨?_, fun p hp => ?_⟩, ⟨ownsRow_fr h.lm.row fT (fun k e es => ?_), fun p hp => ?_⟩, fun k e e' => ?_, fun k hk => ?_, h.fr.then fT (fun j hj e => ?_)⟩
  · rcases e with e | e
    · exact hk (h.freeP i hi k (Or.inr (Or.inl (Or.inl e))))
    · exact hk (h.freeP i hi k (Or.inl e))
  · rcases e with e | e
    · exact hk (h.freeR i hi k (Or.inr (Or.inl (Or.inl e))))
    · exact hk (h.freeR i hi k (Or.inl e))
  · rcases z k hk with e | e | e
    · exact h.freeP i hi k e
    · exact (h.zero i hi k e).1
    · exact ((hfree k e).2 i hi).1
  · rcases z k hk with e | e | e
    · exact h.freeR i hi k e
    · exact (h.zero i hi k e).2
    · exact ((hfree k e).2 i hi).2
  · have := ownsRow_fr hown fS (fun j e ej => v6wb (ej ▸ e))
    rw [List.length_append, List.map_append]
    exact this
  · rcases List.mem_append.1 hp with hp | hp
    · refine ownsRow_fr (h.ll.inn p hp) fT (fun j e ej => ?_)
      rcases ej with ej | ej
      · exact rows_apart h.ll.row (h.ll.inn p hp) j e ej
      · exact h.wl j (Or.inl (Or.inr ⟨p, hp, e⟩)) ej
    · simp at hp
      subst hp
      refine ownsRow_fr hu fT (fun j e ej => ?_)
      rcases ej with ej | ej
      · exact rows_apart h.ll.row hu j e ej
      · exact (hfree j e).1 ej
  · rcases es with es | es
    · exact h.part k es e
    · exact h.wl k (Or.inr (Or.inl e)) es
  · refine ownsRow_fr (h.lm.inn p hp) fT (fun j e ej => ?_)
    rcases ej with ej | ej
    · exact rows_apart h.ll.row (h.lm.inn p hp) j e ej
    · exact h.wl j (Or.inr (Or.inr ⟨p, hp, e⟩)) ej
  · rcases hat k e with e | e
    · exact h.part k e e'
    · have := (World.ownsRow.lt h.lm.row k e').2; omega
  · intro ek
    subst ek
    rcases hk with hk | hk
    · rcases hk.snoc (hat k) with e | e | e
      · exact h.wl k (Or.inl e) rfl
      · omega
      · exact (hfree k e).1 rfl
    · exact h.wl k (Or.inr hk) rfl
  · rcases e with e | e
    · have := (World.ownsRow.lt h.ll.row j e).1; omega
    · have := h.base; omega

/-- One list more among those held beside. -/
theorem Wq.growM {w6 : World} {v6 u : Value} {zs : List Int} (h : Wq w0 w wb pb rb pg rg pa ra lv mv us us') (f : Fr (fun j => mv.ownBlock = some j) w w6) (hown : w6.ownsRow w0.heap.size 29 1 v6 (us'.length + 1) (us'.map (·.1) ++ [u]))
    (hat : ∀ j, v6.ownBlock = some j → mv.ownBlock = some j ∨ w.heap.size ≤ j) (hu : w.ownsRow w0.heap.size 3 1 u zs.length (zs.map vI)) (hfree : ∀ j, u.ownBlock = some j → Own0 wb pg rg j) :
    Wq w0 (w6.setCell ⟨wb, 5, none⟩ v6) wb pb rb pg rg pa ra lv v6 us (us' ++ [(u, zs)]) := by
  have fS : Fr (fun j => j = wb) w6 (w6.setCell ⟨wb, 5, none⟩ v6) := Fr.setCell (Fr.refl _ w6) _ _ (Or.inl rfl)
  have fT : Fr (fun j => mv.ownBlock = some j ∨ j = wb) w (w6.setCell ⟨wb, 5, none⟩ v6) := (f.mono (fun _ _ e => Or.inl e)).trans (fS.mono (fun _ _ e => Or.inr e))
  have hwb := heap_lt h.blk
  have nwl : mv.ownBlock ≠ some wb := fun e => h.wl wb (Or.inr (Or.inl e)) rfl
  have z : ∀ k, (k = wb ∨ LsB lv us k ∨ LsB v6 (us' ++ [(u, zs)]) k) → (k = wb ∨ LsB lv us k ∨ LsB mv us' k) ∨ w.heap.size ≤ k ∨ u.ownBlock = some k := fun k hk => by
    rcases hk with e | e | e
    · exact Or.inl (Or.inl e)
    · exact Or.inl (Or.inr (Or.inl e))
    · rcases e.snoc (hat k) with e | e
      · exact Or.inl (Or.inr (Or.inr e))
      · exact Or.inr e
  have hb6 : w6.heap[wb]? = _ := (f.block wb hwb nwl).trans h.blk
  have v6wb : v6.ownBlock ≠ some wb := fun e => by
    rcases hat wb e with e | e
    · exact nwl e
    · omega
  refine ⟨set_of hb6 5 v6, h.base, fun i hi => (h.pm i hi).fr fT (fun k hk e => ?_), fun i hi => (h.rm i hi).fr' fT (fun k hk e => ?_), h.pn, h.rn, h.pp, h.rr, h.pr, fun i hi k hk => ?_, fun i hi k hk => ?_, ⟨ownsRow_fr h.ll.row fT (fun k e es => ?_), fun p hp => ?_⟩, ⟨?_, fun p hp => ?_⟩, fun k e e' => ?_, fun k hk => ?_, h.fr.then fT (fun j hj e => ?_)⟩
  · rcases e with e | e
    · exact hk (h.freeP i hi k (Or.inr (Or.inr (Or.inl e))))
    · exact hk (h.freeP i hi k (Or.inl e))
  · rcases e with e | e
    · exact hk (h.freeR i hi k (Or.inr (Or.inr (Or.inl e))))
    · exact hk (h.freeR i hi k (Or.inl e))
  · rcases z k hk with e | e | e
    · exact h.freeP i hi k e
    · exact (h.zero i hi k e).1
    · exact ((hfree k e).2 i hi).1
  · rcases z k hk with e | e | e
    · exact h.freeR i hi k e
    · exact (h.zero i hi k e).2
    · exact ((hfree k e).2 i hi).2
  · rcases es with es | es
    · exact h.part k e es
    · exact h.wl k (Or.inl (Or.inl e)) es
  · refine ownsRow_fr (h.ll.inn p hp) fT (fun j e ej => ?_)
    rcases ej with ej | ej
    · exact rows_apart h.lm.row (h.ll.inn p hp) j e ej
    · exact h.wl j (Or.inl (Or.inr ⟨p, hp, e⟩)) ej
  · have := ownsRow_fr hown fS (fun j e ej => v6wb (ej ▸ e))
    rw [List.length_append, List.map_append]
    exact this
  · rcases List.mem_append.1 hp with hp | hp
    · refine ownsRow_fr (h.lm.inn p hp) fT (fun j e ej => ?_)
      rcases ej with ej | ej
      · exact rows_apart h.lm.row (h.lm.inn p hp) j e ej
      · exact h.wl j (Or.inr (Or.inr ⟨p, hp, e⟩)) ej
    · simp at hp
      subst hp
      refine ownsRow_fr hu fT (fun j e ej => ?_)
      rcases ej with ej | ej
      · exact rows_apart h.lm.row hu j e ej
      · exact (hfree j e).1 ej
  · rcases hat k e' with e' | e'
    · exact h.part k e e'
    · have := (World.ownsRow.lt h.ll.row k e).2; omega
  · intro ek
    subst ek
    rcases hk with hk | hk
    · exact h.wl k (Or.inl hk) rfl
    · rcases hk.snoc (hat k) with e | e | e
      · exact h.wl k (Or.inr e) rfl
      · omega
      · exact (hfree k e).1 rfl
  · rcases e with e | e
    · have := (World.ownsRow.lt h.lm.row j e).1; omega
    · have := h.base; omega

end

end Go.Proofs.Ytmdlebolmhnhaab
