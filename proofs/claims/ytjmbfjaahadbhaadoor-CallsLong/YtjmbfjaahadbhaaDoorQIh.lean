import Derived.Test.YtjmbfjaahadbhaaDoorQLkJ
set_option linter.unusedVariables false
set_option linter.unusedSimpArgs false
namespace Go.Proofs.YtjmbfjaahadbhaaDoor
open Go.RowKit (wrap32 wrap64)

/-! ### a chain of functions, and a ring -/
def codeC (N : Nat) (ring : Bool) (f : Nat) : List PI := if f + 1 < N then [cI ((f + 1 : Nat) : Int), bI] else if ring then [cI 0, bI] else [bI]
def chF (N : Nat) (ring : Bool) (k : Nat) : List PF := (List.range k).map (fun f => ⟨0, 0, 0, codeC N ring f⟩)
def chC (N : Nat) (ring : Bool) (f : Nat) : List Nat := if f + 1 < N then [f + 1] else if ring then [0] else []
theorem chF_len (N : Nat) (ring : Bool) (k : Nat) : (chF N ring k).length = k := by simp [chF]
theorem chF_at {N : Nat} {ring : Bool} {k f : Nat} (h : f < (chF N ring k).length) : (chF N ring k)[f] = ⟨0, 0, 0, codeC N ring f⟩ := by simp [chF]
theorem chF_cl {N : Nat} {ring : Bool} {f : Nat} (h : f < N) : clX (chF N ring N) f = chC N ring f := by
  rw [clX_at (by rw [chF_len]; exact h), chF_at]
  unfold codeC chC
  by_cases e : f + 1 < N
  · rw [if_pos e, if_pos e]; simp [callX]
  · rw [if_neg e, if_neg e]
    cases ring <;> simp [callX]
theorem rise_one {l : List Nat} {a : Nat} (h : l.Pairwise (· < ·)) (hm : ∀ x, x ∈ l ↔ x = a) : l = [a] := by
  cases l with
  | nil => exact absurd ((hm a).2 rfl) (by simp)
  | cons x t =>
    have hx : x = a := (hm x).1 (by simp)
    subst hx
    rw [List.pairwise_cons] at h
    cases t with
    | nil => rfl
    | cons y t =>
      have k1 := h.1 y (by simp)
      have k2 := (hm y).1 (by simp)
      omega
section
variable {N n : Nat} {of : Nat → Nat} {cl : Nat → List Nat}
/-- The ring: one component. -/
theorem ring_graph (h : Gp N cl n of) (h0 : 0 < N) (hc : ∀ f, f < N → cl f = chC N true f) : n = 1 ∧ (∀ f, f < N → of f = 0) ∧ memX N of 0 = List.range N ∧ cleX N n of cl 0 = [] ∧ clrX N n of cl 0 = [] := by
  have step : ∀ f, f + 1 < N → Rch cl f (f + 1) := fun f hf => .step (.refl f) (by rw [hc f (by omega)]; unfold chC; rw [if_pos hf]; simp)
  have up : ∀ k f, f + k < N → Rch cl f (f + k) := by
    intro k
    induction k with
    | zero => intro f _; exact .refl f
    | succ k ih => intro f hf; exact (ih f (by omega)).trans (step (f + k) hf)
  have last : Rch cl (N - 1) 0 := .step (.refl _) (by rw [hc (N - 1) (by omega)]; unfold chC; rw [if_neg (by omega)]; simp)
  have from0 : ∀ f, f < N → Rch cl 0 f := fun f hf => by have := up f 0 (by omega); rwa [Nat.zero_add] at this
  have to0 : ∀ f, f < N → Rch cl f 0 := fun f hf => by
    have := up (N - 1 - f) f (by omega)
    rw [show f + (N - 1 - f) = N - 1 by omega] at this
    exact this.trans last
  have eq : ∀ f, f < N → of f = of 0 := fun f hf => (h.eq f 0 hf h0).2 ⟨to0 f hf, from0 f hf⟩
  have b0 := h.lt 0 h0
  have z0 : of 0 = 0 := by
    obtain ⟨x, hx, e⟩ := h.on 0 (by omega)
    rw [← eq x hx, e]
  have n1 : n = 1 := by
    obtain ⟨x, hx, e⟩ := h.on (n - 1) (by omega)
    have := eq x hx
    omega
  refine ⟨n1, fun f hf => (eq f hf).trans z0, ?_, ?_, ?_⟩
  · unfold memX
    rw [List.filter_eq_self]
    intro f hf
    rw [List.mem_range] at hf
    simp [eq f hf, z0]
  · rw [n1]; simp [cleX, List.range_succ]
  · rw [n1]; simp [clrX, List.range_succ]
/-- The chain: each function a component, the last one first. -/
theorem chain_graph (h : Gp N cl n of) (h0 : 0 < N) (hnN : n ≤ N) (hc : ∀ f, f < N → cl f = chC N false f) : n = N ∧ (∀ f, f < N → of f = N - 1 - f) ∧ (1 < N → cleX N N of cl (N - 1) = [N - 2] ∧ clrX N N of cl 0 = [1]) := by
  have step : ∀ f, f + 1 < N → Rch cl f (f + 1) := fun f hf => .step (.refl f) (by rw [hc f (by omega)]; unfold chC; rw [if_pos hf]; simp)
  have up : ∀ {x y : Nat}, x < N → Rch cl x y → x ≤ y ∧ y < N := by
    intro x y hx k
    induction k with
    | refl => exact ⟨Nat.le_refl _, hx⟩
    | @step y z _ m ih =>
      rw [hc _ ih.2] at m
      unfold chC at m
      by_cases e : y + 1 < N
      · rw [if_pos e] at m
        simp at m
        omega
      · rw [if_neg e] at m
        simp at m
  have low : ∀ f, f + 1 < N → of (f + 1) < of f := fun f hf => by
    have k1 := h.dn f (f + 1) (by omega) hf (step f hf)
    have k2 : of f ≠ of (f + 1) := fun e => by
      have := (up hf ((h.eq f (f + 1) (by omega) hf).1 e).2).1
      omega
    omega
  have ge : ∀ k, k < N → k ≤ of (N - 1 - k) := by
    intro k
    induction k with
    | zero => intro _; omega
    | succ k ih =>
      intro hk
      have k1 := ih (by omega)
      have k2 := low (N - 1 - (k + 1)) (by omega)
      rw [show N - 1 - (k + 1) + 1 = N - 1 - k by omega] at k2
      omega
  have le : ∀ f, f < N → of f + f ≤ of 0 := by
    intro f
    induction f with
    | zero => intro _; omega
    | succ f ih =>
      intro hf
      have k1 := ih (by omega)
      have k2 := low f hf
      omega
  have b0 := h.lt 0 h0
  have all : ∀ f, f < N → of f = N - 1 - f := fun f hf => by
    have k1 := le f hf
    have k2 := ge (N - 1 - f) (by omega)
    rw [show N - 1 - (N - 1 - f) = f by omega] at k2
    omega
  have hn : n = N := by have := all 0 h0; omega
  subst hn
  refine ⟨rfl, all, fun h1 => ⟨rise_one (cleX_rise _) (fun x => ?_), rise_one (clrX_rise _) (fun x => ?_)⟩⟩
  · rw [mem_cleX, hitX_iff]
    constructor
    · rintro ⟨-, -, f, f1, f2, g, g1, g2⟩
      have := all f f1
      have ef : f = 0 := by omega
      subst ef
      rw [hc 0 (by omega)] at g1
      unfold chC at g1
      rw [if_pos (by omega)] at g1
      simp at g1
      subst g1
      have := all 1 (by omega)
      omega
    · intro e
      subst e
      refine ⟨by omega, by omega, 0, by omega, by rw [all 0 h0]; omega, 1, ?_, by rw [all 1 (by omega)]; omega⟩
      rw [hc 0 (by omega)]
      unfold chC
      rw [if_pos (by omega)]
      simp
  · rw [mem_clrX, hitX_iff]
    constructor
    · rintro ⟨-, -, f, f1, f2, g, g1, g2⟩
      rw [hc f f1] at g1
      unfold chC at g1
      by_cases e : f + 1 < n
      · rw [if_pos e] at g1
        simp at g1
        subst g1
        have k1 := all (f + 1) e
        have k2 := all f f1
        omega
      · rw [if_neg e] at g1
        simp at g1
    · intro e
      subst e
      refine ⟨by omega, by omega, n - 2, by omega, by rw [all (n - 2) (by omega)]; omega, n - 1, ?_, by rw [all (n - 1) (by omega)]; omega⟩
      rw [hc (n - 2) (by omega)]
      unfold chC
      rw [if_pos (by omega)]
      simp
      omega
end
end Go.Proofs.YtjmbfjaahadbhaaDoor
