import Derived.Test.YtmdlebolmhnhaabQ3J
namespace Go.Proofs.Ytmdlebolmhnhaab
open Go.RowKit (wrap32 wrap64)
open Go.Maps (Keyed)
set_option linter.unusedVariables false
set_option linter.unusedSimpArgs false

theorem Rel.setGlobal {a : Abs} {r : RA} (h : Rel a r) (n : Int) (x : Val) : (setGlobalX a n x).2 = (rsetGlobalX r n x).2 ∧ Rel (setGlobalX a n x).1 (rsetGlobalX r n x).1 := by
  unfold setGlobalX rsetGlobalX
  rw [h.gl, h.right]
  by_cases hn : 0 ≤ n ∧ n < r.gl.length
  · cases hx : rightB r.cells.length x
    · simp [hn, h]
    · simp only [hn, and_self, if_true, Bool.true_eq_false, if_false]
      refine ⟨by simp, ?_⟩
      exact ⟨rfl, h.made, h.cell, h.inn, h.frl, h.fsort, h.fmade, h.num, h.psort, h.pin, h.pis⟩
  · simp [hn, h]

/-- A change of one cell that touches neither its frame nor where it lies. -/
theorem Rel.entry {a a' : Abs} {r : RA} (h : Rel a r) {i : Nat} {c c' : CellR} (hc : r.cells[i]? = some c) (hhp : c'.heap = c.heap) (hth : c'.there = true → c.there = true)
    (e0 : a'.gl = a.gl) (e1 : a'.made = a.made) (e2 : a'.frs = a.frs) (e3 : ∀ j, j ≠ i + 1 → a'.cells j = a.cells j) (e4 : a'.cells (i + 1) = if c'.there then some c'.fields else none) (e5 : a'.pss.Sublist a.pss) (e6 : ∀ p ∈ a.pss, (a'.cells p).isSome = true → p ∈ a'.pss) :
    Rel a' { r with cells := r.cells.set i c' } := by
  have hcl : i < r.cells.length := (List.getElem?_eq_some_iff.1 hc).1
  have get : ∀ (j : Nat) (x : CellR), (r.cells.set i c')[j]? = some x → (j = i ∧ x = c') ∨ (j ≠ i ∧ r.cells[j]? = some x) := by
    intro j x hj
    by_cases hji : j = i
    · subst hji
      rw [List.getElem?_set_self hcl] at hj
      cases hj
      exact Or.inl ⟨rfl, rfl⟩
    · rw [List.getElem?_set_ne (Ne.symm hji)] at hj
      exact Or.inr ⟨hji, hj⟩
  refine ⟨e0.trans h.gl, by simp [e1, h.made], fun j x hj => ?_, fun j hj => ?_, by rw [e2]; exact h.frl, by rw [e2]; exact h.fsort, by rw [e1, e2]; exact h.fmade, by rw [e1, e2]; exact h.num, h.psort.sublist e5, fun j x hj ht hh => ?_, fun p hp => ?_⟩
  · rcases get j x hj with ⟨rfl, rfl⟩ | ⟨hji, hj⟩
    · exact e4
    · rw [e3 _ (by omega)]; exact h.cell j x hj
  · rw [e1]
    by_cases hji : j = i + 1
    · have := h.made; omega
    · rw [e3 j hji] at hj; exact h.inn j hj
  · rcases get j x hj with ⟨rfl, rfl⟩ | ⟨hji, hj⟩
    · have := h.pin _ c hc (hth ht) (by rw [← hhp]; exact hh)
      exact e6 _ this (by rw [e4, if_pos ht]; rfl)
    · have := h.pin j x hj ht hh
      refine e6 _ this ?_
      rw [e3 _ (by omega), h.cell j x hj, if_pos ht]
      rfl
  · obtain ⟨j, x, t, l, rfl, hx, h2, h3, h4⟩ := h.pis p (e5.subset hp)
    by_cases hji : j = i
    · subst hji
      rw [hc] at hx
      cases hx
      exact ⟨j, c', t, l, rfl, List.getElem?_set_self hcl, by rw [hhp]; exact h2, h3, h4⟩
    · exact ⟨j, x, t, l, rfl, by show (r.cells.set i c')[j]? = _; rw [List.getElem?_set_ne (Ne.symm hji)]; exact hx, h2, h3, h4⟩

theorem Rel.atX {a : Abs} {r : RA} (h : Rel a r) (v : Val) (f : Int) : (loadX a v f).2 = atX r v f := by
  rw [h.load]
  unfold rloadX
  split
  · rfl
  · rename_i h0
    have h0 : Go.Proofs.Ytmdlebolmhnhaab.atX r v f = 0 := by simpa using h0
    rw [h0]
    split <;> rfl

theorem Rel.store {a : Abs} {r : RA} (h : Rel a r) (v : Val) (f : Int) (x : Val) : (storeX a v f x).2 = (rstoreX r v f x).2 ∧ Rel (storeX a v f x).1 (rstoreX r v f x).1 := by
  have hat := h.atX v f
  obtain ⟨k, n⟩ := v
  unfold storeX rstoreX
  rw [h.right, h.right]
  cases hx : rightB r.cells.length x
  · simp [h]
  · simp only [Bool.true_eq_false, or_false, if_false]
    cases hr : rightB r.cells.length (k, n)
    · have : Go.Proofs.Ytmdlebolmhnhaab.atX r (k, n) f = 1 := by unfold Go.Proofs.Ytmdlebolmhnhaab.atX; rw [hr]; simp
      rw [this]
      simp only [if_true]
      rw [if_pos (by decide)]
      exact ⟨rfl, h⟩
    · simp only [Bool.true_eq_false, if_false]
      by_cases h2 : k = 2
      · subst h2
        have hn : 1 ≤ n ∧ n ≤ r.cells.length := by simpa [rightB] using hr
        obtain ⟨i, rfl⟩ : ∃ i : Nat, n = ((i + 1 : Nat) : Int) := ⟨(n - 1).toNat, by omega⟩
        obtain ⟨c, hc⟩ : ∃ c, r.cells[i]? = some c := ⟨_, List.getElem?_eq_getElem (by omega)⟩
        have hav : Go.Proofs.Ytmdlebolmhnhaab.atX r (2, ((i + 1 : Nat) : Int)) f = if c.there = false then 32 else if 0 ≤ f ∧ f < c.fields.length then 0 else 33 := by
          unfold Go.Proofs.Ytmdlebolmhnhaab.atX
          rw [hr, if_neg (by simp), if_neg (by simp)]
          simp only [Int.toNat_natCast, Nat.add_sub_cancel, hc]
        rw [hav]
        simp only [ne_eq, not_true_eq_false, if_false, Int.toNat_natCast, Nat.add_sub_cancel, hc, h.cell i c hc]
        cases ht : c.there
        · simp only [if_true, Bool.false_eq_true, if_false]
          rw [if_pos (by decide)]
          exact ⟨rfl, h⟩
        · simp only [Bool.true_eq_false, if_false, if_true]
          by_cases hf : 0 ≤ f ∧ f < c.fields.length
          · simp only [if_pos hf]
            rw [if_neg (by simp)]
            refine ⟨rfl, h.entry hc rfl (fun _ => ht) rfl rfl rfl (fun j hj => ?_) ?_ (List.Sublist.refl _) (fun p hp _ => hp)⟩
            · show upd a.cells (i + 1) _ j = _
              unfold upd
              rw [if_neg hj]
            · show upd a.cells (i + 1) _ (i + 1) = _
              unfold upd
              rw [if_pos rfl]
              simp [ht]
          · simp only [if_neg hf]
            rw [if_pos (by decide)]
            exact ⟨rfl, h⟩
      · have hav : Go.Proofs.Ytmdlebolmhnhaab.atX r (k, n) f = 31 := by
          unfold Go.Proofs.Ytmdlebolmhnhaab.atX
          rw [hr, if_neg (by simp), if_pos h2]
        rw [hav, if_pos h2, if_pos (by decide)]
        exact ⟨rfl, h⟩

theorem Rel.isSome {a : Abs} {r : RA} (h : Rel a r) (i : Nat) (hi : i < r.cells.length) : (a.cells (i + 1)).isSome = rthereB r i := by
  have hm := List.getElem?_eq_getElem hi
  rw [h.cell i _ hm]
  unfold rthereB
  rw [hm]
  simp only [Option.map_some, Option.getD_some]
  cases r.cells[i].there <;> rfl

theorem Rel.live {a : Abs} {r : RA} (h : Rel a r) : liveX a = (rliveL r r.cells.length).map fun i : Nat => (i : Int) + 1 := by
  have key : ∀ k, k ≤ r.cells.length → (List.range (k + 1)).filter (fun i => (a.cells i).isSome) = (rliveL r k).map (· + 1) := by
    intro k
    induction k with
    | zero =>
      intro _
      have : (a.cells 0).isSome = false := by
        cases hs : (a.cells 0).isSome
        · rfl
        · have := h.inn 0 hs; omega
      simp [rliveL, this]
    | succ k ih =>
      intro hk
      rw [List.range_succ, List.filter_append, ih (by omega), rliveL_succ, List.map_append]
      congr 1
      simp only [List.filter_cons, List.filter_nil, h.isSome k (by omega)]
      cases rthereB r k <;> rfl
  unfold liveX liveN
  rw [h.made, key _ (Nat.le_refl _), List.map_map]
  rfl

end Go.Proofs.Ytmdlebolmhnhaab
