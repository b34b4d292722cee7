import Derived.Test.YtjmbfjaahadbhaaDoorQPaJ
set_option linter.unusedVariables false
set_option linter.unusedSimpArgs false
namespace Go.Proofs.YtjmbfjaahadbhaaDoor

/-! ### functions numbered otherwise -/
structure Ren (N : Nat) (tw : Nat → Nat) (cl cl' : Nat → List Nat) : Prop where
  lt : ∀ x, x < N → tw x < N
  inj : ∀ x y, x < N → y < N → tw x = tw y → x = y
  on : ∀ y, y < N → ∃ x, x < N ∧ tw x = y
  cls : ∀ x, x < N → cl' (tw x) = (cl x).map tw
  cN : ∀ x, x < N → ∀ z ∈ cl x, z < N
section
variable {N n n' : Nat} {tw of of' : Nat → Nat} {cl cl' : Nat → List Nat}
theorem Ren.rch (h : Ren N tw cl cl') {x y : Nat} (hx : x < N) (k : Rch cl x y) : y < N ∧ Rch cl' (tw x) (tw y) := by
  induction k with
  | refl => exact ⟨hx, .refl _⟩
  | @step y z _ m ih => exact ⟨h.cN y ih.1 z m, .step ih.2 (by rw [h.cls y ih.1]; exact List.mem_map.2 ⟨z, m, rfl⟩)⟩
theorem Ren.hcr (h : Ren N tw cl cl') {x v : Nat} (hx : x < N) (k : Rch cl' (tw x) v) : ∃ y, y < N ∧ v = tw y ∧ Rch cl x y := by
  induction k with
  | refl => exact ⟨x, hx, rfl, .refl _⟩
  | @step u z _ m ih =>
    obtain ⟨y, hy, rfl, ky⟩ := ih
    rw [h.cls y hy, List.mem_map] at m
    obtain ⟨z0, m0, rfl⟩ := m
    exact ⟨z0, h.cN y hy z0 m0, rfl, .step ky m0⟩
theorem Ren.rchs (h : Ren N tw cl cl') {x y : Nat} (hx : x < N) (hy : y < N) : Rch cl x y ↔ Rch cl' (tw x) (tw y) := by
  refine ⟨fun k => (h.rch hx k).2, fun k => ?_⟩
  obtain ⟨y', hy', e, k'⟩ := h.hcr hx k
  rw [h.inj y y' hy hy' e]
  exact k'
theorem Ren.same (h : Ren N tw cl cl') (g : Rg N cl n of) (g' : Rg N cl' n' of') {x y : Nat} (hx : x < N) (hy : y < N) : of x = of y ↔ of' (tw x) = of' (tw y) := by
  rw [g.eq x y hx hy, g'.eq _ _ (h.lt x hx) (h.lt y hy), h.rchs hx hy, h.rchs hy hx]
theorem inj_le {a b : Nat} (φ : Nat → Nat) (h1 : ∀ c, c < a → φ c < b) (h2 : ∀ c d, c < a → d < a → φ c = φ d → c = d) : a ≤ b := by
  have nd : ((List.range a).map φ).Nodup := by
    rw [List.Nodup, List.pairwise_map]
    refine List.Pairwise.imp_of_mem ?_ (List.pairwise_lt_range (n := a))
    intro x y hx hy hxy e
    rw [List.mem_range] at hx hy
    have := h2 x y hx hy e
    omega
  have := nodup_le nd (n := b) (fun x hx => by
    obtain ⟨c, hc, rfl⟩ := List.mem_map.1 hx
    exact h1 c (List.mem_range.1 hc))
  rwa [List.length_map, List.length_range] at this
theorem Ren.len (h : Ren N tw cl cl') (g : Rg N cl n of) (g' : Rg N cl' n' of') : n' = n := by
  apply Nat.le_antisymm
  · have pick : ∀ c, c < n' → ∃ x, x < N ∧ of' (tw x) = c := fun c hc => by
      obtain ⟨v, v1, v2⟩ := g'.on c hc
      obtain ⟨x, x1, x2⟩ := h.on v v1
      exact ⟨x, x1, by rw [x2, v2]⟩
    have pick2 : ∀ c, ∃ x, c < n' → x < N ∧ of' (tw x) = c := fun c => by
      by_cases hc : c < n'
      · obtain ⟨x, hx⟩ := pick c hc
        exact ⟨x, fun _ => hx⟩
      · exact ⟨0, fun e => absurd e hc⟩
    obtain ⟨ψ, hψ⟩ := Classical.axiomOfChoice pick2
    refine inj_le (fun c => of (ψ c)) (fun c hc => g.lt _ (hψ c hc).1) (fun c d hc hd e => ?_)
    have := (h.same g g' (hψ c hc).1 (hψ d hd).1).1 e
    rw [(hψ c hc).2, (hψ d hd).2] at this
    exact this
  · have pick2 : ∀ c, ∃ x, c < n → x < N ∧ of x = c := fun c => by
      by_cases hc : c < n
      · obtain ⟨x, hx⟩ := g.on c hc
        exact ⟨x, fun _ => hx⟩
      · exact ⟨0, fun e => absurd e hc⟩
    obtain ⟨ψ, hψ⟩ := Classical.axiomOfChoice pick2
    refine inj_le (fun c => of' (tw (ψ c))) (fun c hc => g'.lt _ (h.lt _ (hψ c hc).1)) (fun c d hc hd e => ?_)
    have := (h.same g g' (hψ c hc).1 (hψ d hd).1).2 e
    rw [(hψ c hc).2, (hψ d hd).2] at this
    exact this
theorem Ren.calls (h : Ren N tw cl cl') (g : Rg N cl n of) (g' : Rg N cl' n' of') {x y : Nat} (hx : x < N) (hy : y < N) : of y ∈ cleX N n of cl (of x) ↔ of' (tw y) ∈ cleX N n' of' cl' (of' (tw x)) := by
  rw [mem_cleX, mem_cleX, hitX_iff, hitX_iff]
  constructor
  · rintro ⟨-, h2, f, f1, f2, z, z1, z2⟩
    refine ⟨g'.lt _ (h.lt y hy), fun e => h2 ((h.same g g' hx hy).2 e), tw f, h.lt f f1, (h.same g g' f1 hx).1 f2, tw z, ?_, (h.same g g' (h.cN f f1 z z1) hy).1 z2⟩
    rw [h.cls f f1]
    exact List.mem_map.2 ⟨z, z1, rfl⟩
  · rintro ⟨-, h2, f', f1, f2, z', z1, z2⟩
    obtain ⟨f, e1, rfl⟩ := h.on f' f1
    rw [h.cls f e1, List.mem_map] at z1
    obtain ⟨z, z0, rfl⟩ := z1
    exact ⟨g.lt y hy, fun e => h2 ((h.same g g' hx hy).1 e), f, e1, (h.same g g' e1 hx).2 f2, z, z0, (h.same g g' (h.cN f e1 z z0) hy).2 z2⟩
end
end Go.Proofs.YtjmbfjaahadbhaaDoor
