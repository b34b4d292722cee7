import Derived.Test.YtjmbfjaahadbhaaDoorQNa
set_option linter.unusedVariables false
set_option linter.unusedSimpArgs false
namespace Go.Proofs.YtjmbfjaahadbhaaDoor

/-! ### who is reached, by going on until nothing new comes -/
structure RI (N : Nat) (cl : Nat → List Nat) (f : Nat) (todo : List Nat) (k i : Nat) : Prop where
  nd : todo.Nodup
  lt : ∀ x ∈ todo, x < N
  ff : f ∈ todo
  rc : ∀ x ∈ todo, Rch cl f x
  dn : ∀ j y, j < k → todo[j]? = some y → ∀ z ∈ cl y, z ∈ todo
  an : ∀ y, todo[k]? = some y → ∀ z ∈ (cl y).take i, z ∈ todo
section
variable {N f k i y z : Nat} {cl : Nat → List Nat} {todo : List Nat}
theorem RI.begin (hf : f < N) : RI N cl f [f] 0 0 :=
  ⟨by simp, fun x hx => by rw [List.mem_singleton] at hx; omega, by simp, fun x hx => by rw [List.mem_singleton] at hx; subst hx; exact .refl _, fun j y hj => absurd hj (Nat.not_lt_zero _), fun y _ z hz => by simp at hz⟩
theorem RI.old (h : RI N cl f todo k i) (hy : todo[k]? = some y) (hz : (cl y)[i]? = some z) (hm : z ∈ todo) : RI N cl f todo k (i + 1) := by
  refine ⟨h.nd, h.lt, h.ff, h.rc, h.dn, fun y' hy' x hx => ?_⟩
  rw [hy] at hy'
  cases hy'
  rw [List.take_add_one, List.mem_append, hz] at hx
  rcases hx with hx | hx
  · exact h.an y hy x hx
  · rw [Option.toList_some, List.mem_singleton] at hx
    subst hx
    exact hm
theorem RI.new (h : RI N cl f todo k i) (hy : todo[k]? = some y) (hz : (cl y)[i]? = some z) (hm : z ∉ todo) (hzN : z < N) : RI N cl f (todo ++ [z]) k (i + 1) := by
  have hk : k < todo.length := by
    by_cases e : k < todo.length
    · exact e
    · rw [List.getElem?_eq_none (by omega)] at hy; cases hy
  have up : ∀ x, x ∈ todo → x ∈ todo ++ [z] := fun x hx => List.mem_append_left _ hx
  refine ⟨?_, fun x hx => ?_, up _ h.ff, fun x hx => ?_, fun j u hj hu x hx => ?_, fun u hu x hx => ?_⟩
  · rw [List.nodup_append]
    refine ⟨h.nd, by simp, fun a ha b hb e => ?_⟩
    rw [List.mem_singleton] at hb
    subst hb
    subst e
    exact hm ha
  · rcases List.mem_append.1 hx with hx | hx
    · exact h.lt x hx
    · rw [List.mem_singleton] at hx; omega
  · rcases List.mem_append.1 hx with hx | hx
    · exact h.rc x hx
    · rw [List.mem_singleton] at hx
      subst hx
      exact .step (h.rc y (List.mem_of_getElem? hy)) (List.mem_of_getElem? hz)
  · rw [List.getElem?_append_left (by omega)] at hu
    exact up _ (h.dn j u hj hu x hx)
  · rw [List.getElem?_append_left hk, hy] at hu
    cases hu
    rw [List.take_add_one, List.mem_append, hz] at hx
    rcases hx with hx | hx
    · exact up _ (h.an y hy x hx)
    · rw [Option.toList_some, List.mem_singleton] at hx
      subst hx
      simp
theorem RI.next (h : RI N cl f todo k i) (hy : todo[k]? = some y) (hi : i = (cl y).length) : RI N cl f todo (k + 1) 0 := by
  refine ⟨h.nd, h.lt, h.ff, h.rc, fun j u hj hu x hx => ?_, fun u _ x hx => by simp at hx⟩
  by_cases e : j < k
  · exact h.dn j u e hu x hx
  · have ej : j = k := by omega
    subst ej
    rw [hy] at hu
    cases hu
    exact h.an y hy x (by rw [hi, List.take_length]; exact hx)
theorem RI.over (h : RI N cl f todo k i) (hk : todo.length ≤ k) (x : Nat) : Rch cl f x ↔ x ∈ todo := by
  refine ⟨fun r => ?_, h.rc x⟩
  induction r with
  | refl => exact h.ff
  | @step u v _ m ih =>
    obtain ⟨j, hj, e⟩ := List.mem_iff_getElem.1 ih
    exact h.dn j u (by omega) (by rw [List.getElem?_eq_getElem hj, e]) v m
theorem RI.len (h : RI N cl f todo k i) : todo.length ≤ N := nodup_le h.nd h.lt
end
end Go.Proofs.YtjmbfjaahadbhaaDoor
