import Derived.Test.YtmdlebolmhnhaaaE3
import Derived.Test.YtmdlebolmhnhaaaD4
namespace Go.Proofs.Ytmdlebolmhnhaaa
open Go.RowKit (wrap32 wrap64)
open Go.Maps (Keyed)
set_option linter.unusedVariables false
set_option linter.unusedSimpArgs false

/-- What one call does, Live and Drop too: besides, the list that it answers. -/
structure Ans where
  abs : Abs
  n : Int
  v : Val
  err : Int
  list : List Int

def ansX (a : Abs) (o : OpR) (zs : List Int) : Ans :=
  if o.kind = 9 then ⟨a, 0, (0, 0), 0, liveX a⟩
  else if o.kind = 10 then ⟨(dropX a zs).1, 0, (0, 0), (dropX a zs).2, []⟩
  else ⟨(oneX a o).1, (oneX a o).2.1, (oneX a o).2.2.1, (oneX a o).2.2.2, []⟩

theorem IntsAt.of_row {w : World} {B : Nat} {v : Value} {zs : List Int} (h : w.ownsRow B 3 1 v zs.length (zs.map vI)) : IntsAt w.heap.size w v zs := by
  obtain ⟨h1, h2⟩ := h
  rcases h2 with ⟨rfl, h3⟩ | ⟨g, cap, cur, rfl, h3, h4, h5, h6, h7, h8⟩
  · exact Or.inl ⟨none, 0, rfl, List.length_eq_zero_iff.1 h3⟩
  · refine Or.inr ⟨g, 0, cap, rfl, heap_lt h4, fun j hj => ?_⟩
    have e : cur[j]? = some (vI (zs[j]?.getD 0)) := by
      have e1 : (cur.toList.take (zs.length * 1))[j]? = cur.toList[j]? := by rw [List.getElem?_take]; simp [hj]
      rw [← Array.getElem?_toList, ← e1, h8, List.getElem?_map, List.getElem?_eq_getElem hj]
      rfl
    rw [Nat.zero_add, cell_of h4]
    exact e

def AnsEnds (b : Nat) (g : Gh) (r : Ans) (w : World) (e : Ending) (w' : World) : Prop :=
  ∃ g' v, e = .returned (.tuple #[vI r.n, vv r.v, v, vI r.err]) ∧ IntsAt w'.heap.size w' v r.list ∧ (∀ j, v.ownBlock = some j → w.heap.size ≤ j ∧ g'.own j = 0) ∧ Mem w' b g' r.abs ∧ Fr (fun j => g.own j ≠ 0) w w' ∧ Ext w.heap.size g g'

theorem AnsEnds.of_one {b : Nat} {g : Gh} {a : Abs} {n : Int} {v : Val} {er : Int} {w : World} {e : Ending} {w' : World} (h : OneEnds b g (a, n, v, er) w e w') : AnsEnds b g ⟨a, n, v, er, []⟩ w e w' := by
  obtain ⟨g', rfl, h2, h3, h4⟩ := h
  exact ⟨g', _, rfl, Or.inl ⟨none, 0, rfl, rfl⟩, fun j e => (by cases e), h2, h3, h4⟩

theorem one_all (b : Nat) (g : Gh) (a : Abs) (o : OpR) (zs : List Int) (w : World) (h : Mem w b g a) (hI : IntsAt w.heap.size w o.cells zs) (hl : o.cl = zs.length) (hso : zs ≠ [] → ∀ j, o.cells.ownBlock = some j → g.own j = 0) (hz : zs.length ≤ 17592186043904) {N : Nat} (hf : Fine N a) (hN : N ≤ 10000000000000) :
    Calls Try.prog 20 #[ptr b, opV o] w (AnsEnds b g (ansX a o zs) w) := by
  unfold ansX
  by_cases h9 : o.kind = 9
  · rw [if_pos h9]
    refine (one_live b g a o w h hf hN h9).mono ?_
    rintro e w' ⟨v, rfl, hrow, hM, hF⟩
    refine ⟨g, v, rfl, IntsAt.of_row hrow, fun j hj => ?_, hM, hF.mono (fun _ _ h => h.elim), Ext.refl _ _⟩
    rcases hrow.2 with ⟨h2, -⟩ | ⟨g7, cap, cur, e7, h3, -⟩
    · rw [h2] at hj; cases hj
    · rw [e7] at hj
      cases hj
      refine ⟨h3, ?_⟩
      by_cases h0 : g.own g7 = 0
      · exact h0
      · have := h.olt _ h0; omega
  rw [if_neg h9]
  by_cases h10 : o.kind = 10
  · rw [if_pos h10]
    exact (one_drop b g a o zs w h hI hl hso hz hf hN h10).mono fun e w' h => AnsEnds.of_one h
  rw [if_neg h10]
  exact (one_any b g a o w h hf hN h9 h10).mono fun e w' h => AnsEnds.of_one h

theorem Fine.drop {N : Nat} {a : Abs} (h : Fine N a) (zs : List Int) : Fine N (dropX a zs).1 := by
  unfold dropX
  split
  · unfold forgetX
    split
    · refine ⟨h.made, h.frs, Nat.le_trans (List.length_filter_le _ _) h.pss, fun p hp => h.pbd p (List.mem_filter.1 hp).1⟩
    · exact ⟨h.made, h.frs, h.pss, h.pbd⟩
  · exact h

theorem Fine.ans {N : Nat} {a : Abs} (h : Fine N a) (o : OpR) (zs : List Int) : Fine (N + 1) (ansX a o zs).abs := by
  unfold ansX
  split
  · exact h.mono (Nat.le_succ N)
  split
  · exact (h.drop zs).mono (Nat.le_succ N)
  · exact h.one o

/-- The number that a call answers. -/
theorem ans_n {N : Nat} {a : Abs} (h : Fine N a) (o : OpR) (zs : List Int) : ∃ m : Nat, (ansX a o zs).n = m ∧ m ≤ N + 1 := by
  have hm := h.made
  have z : ∃ m : Nat, (0 : Int) = m ∧ m ≤ N + 1 := ⟨0, rfl, by omega⟩
  unfold ansX
  split
  · exact z
  split
  · exact z
  unfold oneX
  repeat' split
  all_goals first
    | exact z
    | skip
  unfold makeX
  repeat' split
  all_goals first
    | exact z
    | exact ⟨a.made + 1, rfl, by omega⟩

/-- A call that is refused does nothing and answers nothing. -/
theorem ans_refused {a : Abs} {o : OpR} {zs : List Int} (h : (ansX a o zs).err ≠ 0) : ansX a o zs = ⟨a, 0, (0, 0), (ansX a o zs).err, []⟩ := by
  revert h
  unfold ansX
  split
  · intro h; exact absurd rfl h
  split
  · unfold dropX
    split
    · intro h; exact absurd rfl h
    · intro _; rfl
  unfold oneX
  split
  · intro h; exact absurd rfl h
  split
  · unfold popX
    split
    · intro _; rfl
    · intro h; exact absurd rfl h
  split
  · unfold makeX
    repeat' split
    all_goals first
      | (intro h; exact absurd rfl h)
      | (intro _; rfl)
  split
  · unfold loadX
    repeat' split
    all_goals first
      | (intro h; exact absurd rfl h)
      | (intro _; rfl)
  split
  · unfold storeX
    repeat' split
    all_goals first
      | (intro h; exact absurd rfl h)
      | (intro _; rfl)
  split
  · unfold globalX
    repeat' split
    all_goals first
      | (intro h; exact absurd rfl h)
      | (intro _; rfl)
  split
  · unfold setGlobalX
    repeat' split
    all_goals first
      | (intro h; exact absurd rfl h)
      | (intro _; rfl)
  · intro h; exact absurd rfl h

end Go.Proofs.Ytmdlebolmhnhaaa
