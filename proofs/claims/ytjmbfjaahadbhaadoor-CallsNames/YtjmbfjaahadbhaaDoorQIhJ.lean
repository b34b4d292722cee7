import Derived.Test.YtjmbfjaahadbhaaDoorQLkJ
import Derived.Test.YtjmbfjaahadbhaaDoorQPaJ
set_option linter.unusedVariables false
set_option linter.unusedSimpArgs false
namespace Go.Proofs.YtjmbfjaahadbhaaDoor
open Go.RowKit (wrap32 wrap64)

/-! ### a chain of functions, and a ring -/
def codeC (N : Nat) (ring : Bool) (f : Nat) : List PI := if f + 1 < N then [cI ((f + 1 : Nat) : Int), bI] else if ring then [cI 0, bI] else [bI]
def chF (N : Nat) (ring : Bool) (k : Nat) : List PF := (List.range k).map (fun f => ⟨0, 0, 0, codeC N ring f⟩)
def chC (N : Nat) (ring : Bool) (f : Nat) : List Nat := if f + 1 < N then [f + 1] else if ring then [0] else []
theorem chF_len (N : Nat) (ring : Bool) (k : Nat) : (chF N ring k).length = k := by simp [chF]
theorem chF_at {N : Nat} {ring : Bool} {k f : Nat} (h : f < (chF N ring k).length) : (chF N ring k)[f] = ⟨0, 0, 0, codeC N ring f⟩ := by simp [chF]
theorem chF_cl {N : Nat} {ring : Bool} {f : Nat} (h : f < N) : clX (chF N ring N) f = chC N ring f := by
  rw [clX_at (by rw [chF_len]; exact h), chF_at]
  unfold codeC chC
  by_cases e : f + 1 < N
  · rw [if_pos e, if_pos e]; simp [callX]
  · rw [if_neg e, if_neg e]
    cases ring <;> simp [callX]
theorem rise_one {l : List Nat} {a : Nat} (h : l.Pairwise (· < ·)) (hm : ∀ x, x ∈ l ↔ x = a) : l = [a] := by
  cases l with
  | nil => exact absurd ((hm a).2 rfl) (by simp)
  | cons x t =>
    have hx : x = a := (hm x).1 (by simp)
    subst hx
    rw [List.pairwise_cons] at h
    cases t with
    | nil => rfl
    | cons y t =>
      have k1 := h.1 y (by simp)
      have k2 := (hm y).1 (by simp)
      omega
section
variable {N n : Nat} {of : Nat → Nat} {cl : Nat → List Nat}
/-- The ring: one component. -/
theorem ring_graph (h : Gp N cl n of) (h0 : 0 < N) (hc : ∀ f, f < N → cl f = chC N true f) : n = 1 ∧ (∀ f, f < N → of f = 0) ∧ memX N of 0 = List.range N ∧ cleX N n of cl 0 = [] ∧ clrX N n of cl 0 = [] := by
  have step : ∀ f, f + 1 < N → Rch cl f (f + 1) := fun f hf => .step (.refl f) (by rw [hc f (by omega)]; unfold chC; rw [if_pos hf]; simp)
  have up : ∀ k f, f + k < N → Rch cl f (f + k) := by
    intro k
    induction k with
    | zero => intro f _; exact .refl f
    | succ k ih => intro f hf; exact (ih f (by omega)).trans (step (f + k) hf)
  have last : Rch cl (N - 1) 0 := .step (.refl _) (by rw [hc (N - 1) (by omega)]; unfold chC; rw [if_neg (by omega)]; simp)
  have from0 : ∀ f, f < N → Rch cl 0 f := fun f hf => by have := up f 0 (by omega); rwa [Nat.zero_add] at this
  have to0 : ∀ f, f < N → Rch cl f 0 := fun f hf => by
    have := up (N - 1 - f) f (by omega)
    rw [show f + (N - 1 - f) = N - 1 by omega] at this
    exact this.trans last
  have eq : ∀ f, f < N → of f = of 0 := fun f hf => (h.eq f 0 hf h0).2 ⟨to0 f hf, from0 f hf⟩
  have b0 := h.lt 0 h0
  have z0 : of 0 = 0 := by
    obtain ⟨x, hx, e⟩ := h.on 0 (by omega)
    rw [← eq x hx, e]
  have n1 : n = 1 := by
    obtain ⟨x, hx, e⟩ := h.on (n - 1) (by omega)
    have := eq x hx
    omega
  refine ⟨n1, fun f hf => (eq f hf).trans z0, ?_, ?_, ?_⟩
  · unfold memX
    rw [List.filter_eq_self]
    intro f hf
    rw [List.mem_range] at hf
    simp [eq f hf, z0]
  · rw [n1]; simp [cleX, List.range_succ]
  · rw [n1]; simp [clrX, List.range_succ]
/-- The chain: each function a component, the last one first. -/
theorem chain_graph (h : Gp N cl n of) (h0 : 0 < N) (hnN : n ≤ N) (hc : ∀ f, f < N → cl f = chC N false f) : n = N ∧ (∀ f, f < N → of f = N - 1 - f) ∧ (1 < N → cleX N N of cl (N - 1) = [N - 2] ∧ clrX N N of cl 0 = [1]) := by
  have step : ∀ f, f + 1 < N → Rch cl f (f + 1) := fun f hf => .step (.refl f) (by rw [hc f (by omega)]; unfold chC; rw [if_pos hf]; simp)
  have up : ∀ {x y : Nat}, x < N → Rch cl x y → x ≤ y ∧ y < N := by
    intro x y hx k
    induction k with
    | refl => exact ⟨Nat.le_refl _, hx⟩
    | @step y z _ m ih =>
      rw [hc _ ih.2] at m
      unfold chC at m
      by_cases e : y + 1 < N
      · rw [if_pos e] at m
        simp at m
        omega
      · rw [if_neg e] at m
        simp at m
  have low : ∀ f, f + 1 < N → of (f + 1) < of f := fun f hf => by
    have k1 := h.dn f (f + 1) (by omega) hf (step f hf)
    have k2 : of f ≠ of (f + 1) := fun e => by
      have := (up hf ((h.eq f (f + 1) (by omega) hf).1 e).2).1
      omega
    omega
  have ge : ∀ k, k < N → k ≤ of (N - 1 - k) := by
    intro k
    induction k with
    | zero => intro _; omega
    | succ k ih =>
      intro hk
      have k1 := ih (by omega)
      have k2 := low (N - 1 - (k + 1)) (by omega)
      rw [show N - 1 - (k + 1) + 1 = N - 1 - k by omega] at k2
      omega
  have le : ∀ f, f < N → of f + f ≤ of 0 := by
    intro f
    induction f with
    | zero => intro _; omega
    | succ f ih =>
      intro hf
      have k1 := ih (by omega)
      have k2 := low f hf
      omega
  have b0 := h.lt 0 h0
  have all : ∀ f, f < N → of f = N - 1 - f := fun f hf => by
    have k1 := le f hf
    have k2 := ge (N - 1 - f) (by omega)
    rw [show N - 1 - (N - 1 - f) = f by omega] at k2
    omega
  have hn : n = N := by have := all 0 h0; omega
  subst hn
  refine ⟨rfl, all, fun h1 => ⟨rise_one (cleX_rise _) (fun x => ?_), rise_one (clrX_rise _) (fun x => ?_)⟩⟩
  · rw [mem_cleX, hitX_iff]
    constructor
    · rintro ⟨-, -, f, f1, f2, g, g1, g2⟩
      have := all f f1
      have ef : f = 0 := by omega
      subst ef
      rw [hc 0 (by omega)] at g1
      unfold chC at g1
      rw [if_pos (by omega)] at g1
      simp at g1
      subst g1
      have := all 1 (by omega)
      omega
    · intro e
      subst e
      refine ⟨by omega, by omega, 0, by omega, by rw [all 0 h0]; omega, 1, ?_, by rw [all 1 (by omega)]; omega⟩
      rw [hc 0 (by omega)]
      unfold chC
      rw [if_pos (by omega)]
      simp
  · rw [mem_clrX, hitX_iff]
    constructor
    · rintro ⟨-, -, f, f1, f2, g, g1, g2⟩
      rw [hc f f1] at g1
      unfold chC at g1
      by_cases e : f + 1 < n
      · rw [if_pos e] at g1
        simp at g1
        subst g1
        have k1 := all (f + 1) e
        have k2 := all f f1
        omega
      · rw [if_neg e] at g1
        simp at g1
    · intro e
      subst e
      refine ⟨by omega, by omega, n - 2, by omega, by rw [all (n - 2) (by omega)]; omega, n - 1, ?_, by rw [all (n - 1) (by omega)]; omega⟩
      rw [hc (n - 2) (by omega)]
      unfold chC
      rw [if_pos (by omega)]
      simp
      omega
end

/-! ### chains and rings are right -/
theorem rFuncs_back {G : Int} {FS : List PF} : ∀ (hs : List PF) (L : Int), L + 1 ≤ 1048576 → (∀ f ∈ hs, (∀ j (h : j < f.code.length), InsOk G FS f.R f.V f.code.length f.code[j] ((j : Int) == (f.code.length : Int) - 1)) ∧ newsC f.code = 0) → (rFuncs G FS hs L 0).2 = 0
  | [], _, _, _ => rfl
  | g :: hs, L, hL, h => by
    have e1 : rFuncs G FS (g :: hs) L 0 = rFuncs G FS hs (rCode G FS g.R g.V g.code.length 0 g.code L 0).1 (rCode G FS g.R g.V g.code.length 0 g.code L 0).2 := by simp [rFuncs]
    rw [e1]
    obtain ⟨c1, c2⟩ := @rCode_iff G FS g.R g.V g.code.length g.code 0 L hL
    obtain ⟨k1, k2⟩ := h g (List.mem_cons_self ..)
    have hz : (rCode G FS g.R g.V g.code.length 0 g.code L 0).2 = 0 := c1.2 ⟨fun j hj => by rw [Nat.zero_add]; exact k1 j hj, by omega⟩
    rw [hz, c2 hz, k2]
    exact rFuncs_back hs _ (by omega) (fun f hf => h f (List.mem_cons_of_mem _ hf))
theorem ins_back {G : Int} {FS : List PF} {fl : Nat} (last : Bool) : InsOk G FS 0 0 fl bI last := by
  refine ⟨by decide, by decide, by unfold lastB; simp, fun u hu => ?_⟩
  have : u = 86 := by
    revert hu
    show u ∈ (partsN 15).toList → _
    simp [partsN]
  subst this
  unfold letE
  rw [if_neg (by decide), if_neg (by decide), if_neg (by decide), if_neg (by decide), if_neg (by decide), if_pos rfl]
  rfl
theorem plain_call (m : Int) : plainB 11 0 0 0 m 0 0 = true := by
  unfold plainB
  have h70 : namesB 11 70 = true := by decide
  simp [tested, h70, zzOf, zeros6]
theorem ins_call {G : Int} {FS : List PF} {fl : Nat} (m : Nat) (hm : m < FS.length) (hh : ∀ f ∈ FS, f.P = 0 ∧ f.R = 0) : InsOk G FS 0 0 fl (cI (m : Int)) false := by
  refine ⟨by show opB 11 = true; decide, plain_call m, by unfold lastB; simp, fun u hu => ?_⟩
  have hp : calleeP FS (m : Int) = 0 := by
    unfold calleeP
    rw [Int.toNat_natCast, List.getElem?_eq_getElem hm]
    exact (hh _ (List.getElem_mem hm)).1
  have hr : calleeR FS (m : Int) = 0 := by
    unfold calleeR
    rw [Int.toNat_natCast, List.getElem?_eq_getElem hm]
    exact (hh _ (List.getElem_mem hm)).2
  have : u = 65 ∨ u = 66 ∨ u = 70 := by
    revert hu
    show u ∈ (partsN 11).toList → _
    simp [partsN]
    rintro (h | h | h)
    all_goals (first | exact Or.inl h | exact Or.inr (Or.inl h) | exact Or.inr (Or.inr h))
  rcases this with rfl | rfl | rfl
  · unfold letE
    rw [if_neg (by decide), if_neg (by decide), if_neg (by decide), if_pos rfl]
    show listE (calleeP FS (m : Int)) 0 [] 0 = 0
    rw [hp]; rfl
  · unfold letE
    rw [if_neg (by decide), if_neg (by decide), if_neg (by decide), if_neg (by decide), if_pos rfl]
    show listE (calleeR FS (m : Int)) 0 [] 0 = 0
    rw [hr]; rfl
  · unfold letE
    rw [if_neg (by decide), if_neg (by decide), if_neg (by decide), if_neg (by decide), if_neg (by decide), if_neg (by decide), if_neg (by decide), if_neg (by decide), if_neg (by decide), if_pos rfl]
    rw [mustE_iff (by decide)]
    refine ⟨?_, rfl⟩
    unfold numB
    simp
    omega
theorem sumV_zero : ∀ (fs : List PF), (∀ f ∈ fs, f.V = 0) → sumV fs = 0
  | [], _ => rfl
  | f :: fs, h => by
    have k1 := h f (List.mem_cons_self ..)
    have k2 := sumV_zero fs (fun g hg => h g (List.mem_cons_of_mem _ hg))
    show f.V + sumV fs = 0
    omega
theorem chain_check (N : Nat) (ring : Bool) (h1 : 1 ≤ N) (h2 : N ≤ 65535) : checkP 0 (chF N ring N) = 0 := by
  have hmem : ∀ f ∈ chF N ring N, ∃ k, k < N ∧ f = ⟨0, 0, 0, codeC N ring k⟩ := fun f hf => by
    unfold chF at hf
    rw [List.mem_map] at hf
    obtain ⟨k, hk, e⟩ := hf
    exact ⟨k, List.mem_range.1 hk, e.symm⟩
  have hz : ∀ f ∈ chF N ring N, f.P = 0 ∧ f.R = 0 := fun f hf => by
    obtain ⟨k, -, e⟩ := hmem f hf
    rw [e]; exact ⟨rfl, rfl⟩
  have hl := chF_len N ring N
  rw [checkP_eq]
  unfold rAll rHd
  have he : rE1 0 (chF N ring N).length = 0 := by
    unfold rE1 rE0
    rw [mustE_iff (by decide), mustE_iff (by decide), hl]
    simp
    omega
  rw [he]
  obtain ⟨r1, r2⟩ := rHeads_iff (chF N ring N) 0 (by omega)
  have hv : sumV (chF N ring N) = 0 := sumV_zero _ (fun f hf => by
    obtain ⟨k, -, e⟩ := hmem f hf
    rw [e])
  have hh : (rHeads (chF N ring N) 0 0).2 = 0 := r1.2 ⟨fun f hf => by
    obtain ⟨k, -, e⟩ := hmem f hf
    rw [e]
    refine ⟨by show smallB 0 0 0 = true; decide, ?_, ?_⟩
    · show ((codeC N ring k).length : Int) ≤ 4096
      unfold codeC
      split
      · simp
      · split <;> simp
    · show (1 : Int) ≤ ((codeC N ring k).length : Int)
      unfold codeC
      split
      · simp
      · split <;> simp, by rw [hv]; omega⟩
  rw [hh, r2 hh, hv]
  refine rFuncs_back _ _ (by omega) (fun f hf => ?_)
  obtain ⟨k, hk, e⟩ := hmem f hf
  rw [e]
  show (∀ j (h : j < (codeC N ring k).length), InsOk 0 (chF N ring N) 0 0 (codeC N ring k).length (codeC N ring k)[j] ((j : Int) == ((codeC N ring k).length : Int) - 1)) ∧ newsC (codeC N ring k) = 0
  have two : ∀ m : Nat, m < N → (∀ j (h : j < [cI (m : Int), bI].length), InsOk 0 (chF N ring N) 0 0 [cI (m : Int), bI].length [cI (m : Int), bI][j] ((j : Int) == ([cI (m : Int), bI].length : Int) - 1)) ∧ newsC [cI (m : Int), bI] = 0 := fun m hm => by
    refine ⟨fun j hj => ?_, by simp [newsC]⟩
    have : j = 0 ∨ j = 1 := by simp at hj; omega
    rcases this with rfl | rfl
    · exact ins_call m (by rw [hl]; exact hm) hz
    · exact ins_back _
  unfold codeC
  by_cases e1 : k + 1 < N
  · rw [if_pos e1]
    exact two (k + 1) e1
  · rw [if_neg e1]
    cases ring with
    | true => exact two 0 (by omega)
    | false =>
      refine ⟨fun j hj => ?_, by simp [newsC]⟩
      have : j = 0 := by simp at hj; omega
      subst this
      exact ins_back _
end Go.Proofs.YtjmbfjaahadbhaaDoor
namespace Go.Proofs.YtjmbfjaahadbhaaDoor

/-! ### functions numbered otherwise -/
structure Ren (N : Nat) (tw : Nat → Nat) (cl cl' : Nat → List Nat) : Prop where
  lt : ∀ x, x < N → tw x < N
  inj : ∀ x y, x < N → y < N → tw x = tw y → x = y
  on : ∀ y, y < N → ∃ x, x < N ∧ tw x = y
  cls : ∀ x, x < N → cl' (tw x) = (cl x).map tw
  cN : ∀ x, x < N → ∀ z ∈ cl x, z < N
section
variable {N n n' : Nat} {tw of of' : Nat → Nat} {cl cl' : Nat → List Nat}
theorem Ren.rch (h : Ren N tw cl cl') {x y : Nat} (hx : x < N) (k : Rch cl x y) : y < N ∧ Rch cl' (tw x) (tw y) := by
  induction k with
  | refl => exact ⟨hx, .refl _⟩
  | @step y z _ m ih => exact ⟨h.cN y ih.1 z m, .step ih.2 (by rw [h.cls y ih.1]; exact List.mem_map.2 ⟨z, m, rfl⟩)⟩
theorem Ren.hcr (h : Ren N tw cl cl') {x v : Nat} (hx : x < N) (k : Rch cl' (tw x) v) : ∃ y, y < N ∧ v = tw y ∧ Rch cl x y := by
  induction k with
  | refl => exact ⟨x, hx, rfl, .refl _⟩
  | @step u z _ m ih =>
    obtain ⟨y, hy, rfl, ky⟩ := ih
    rw [h.cls y hy, List.mem_map] at m
    obtain ⟨z0, m0, rfl⟩ := m
    exact ⟨z0, h.cN y hy z0 m0, rfl, .step ky m0⟩
theorem Ren.rchs (h : Ren N tw cl cl') {x y : Nat} (hx : x < N) (hy : y < N) : Rch cl x y ↔ Rch cl' (tw x) (tw y) := by
  refine ⟨fun k => (h.rch hx k).2, fun k => ?_⟩
  obtain ⟨y', hy', e, k'⟩ := h.hcr hx k
  rw [h.inj y y' hy hy' e]
  exact k'
theorem Ren.same (h : Ren N tw cl cl') (g : Rg N cl n of) (g' : Rg N cl' n' of') {x y : Nat} (hx : x < N) (hy : y < N) : of x = of y ↔ of' (tw x) = of' (tw y) := by
  rw [g.eq x y hx hy, g'.eq _ _ (h.lt x hx) (h.lt y hy), h.rchs hx hy, h.rchs hy hx]
theorem inj_le {a b : Nat} (φ : Nat → Nat) (h1 : ∀ c, c < a → φ c < b) (h2 : ∀ c d, c < a → d < a → φ c = φ d → c = d) : a ≤ b := by
  have nd : ((List.range a).map φ).Nodup := by
    rw [List.Nodup, List.pairwise_map]
    refine List.Pairwise.imp_of_mem ?_ (List.pairwise_lt_range (n := a))
    intro x y hx hy hxy e
    rw [List.mem_range] at hx hy
    have := h2 x y hx hy e
    omega
  have := nodup_le nd (n := b) (fun x hx => by
    obtain ⟨c, hc, rfl⟩ := List.mem_map.1 hx
    exact h1 c (List.mem_range.1 hc))
  rwa [List.length_map, List.length_range] at this
theorem Ren.len (h : Ren N tw cl cl') (g : Rg N cl n of) (g' : Rg N cl' n' of') : n' = n := by
  apply Nat.le_antisymm
  · have pick : ∀ c, c < n' → ∃ x, x < N ∧ of' (tw x) = c := fun c hc => by
      obtain ⟨v, v1, v2⟩ := g'.on c hc
      obtain ⟨x, x1, x2⟩ := h.on v v1
      exact ⟨x, x1, by rw [x2, v2]⟩
    have pick2 : ∀ c, ∃ x, c < n' → x < N ∧ of' (tw x) = c := fun c => by
      by_cases hc : c < n'
      · obtain ⟨x, hx⟩ := pick c hc
        exact ⟨x, fun _ => hx⟩
      · exact ⟨0, fun e => absurd e hc⟩
    obtain ⟨ψ, hψ⟩ := Classical.axiomOfChoice pick2
    refine inj_le (fun c => of (ψ c)) (fun c hc => g.lt _ (hψ c hc).1) (fun c d hc hd e => ?_)
    have := (h.same g g' (hψ c hc).1 (hψ d hd).1).1 e
    rw [(hψ c hc).2, (hψ d hd).2] at this
    exact this
  · have pick2 : ∀ c, ∃ x, c < n → x < N ∧ of x = c := fun c => by
      by_cases hc : c < n
      · obtain ⟨x, hx⟩ := g.on c hc
        exact ⟨x, fun _ => hx⟩
      · exact ⟨0, fun e => absurd e hc⟩
    obtain ⟨ψ, hψ⟩ := Classical.axiomOfChoice pick2
    refine inj_le (fun c => of' (tw (ψ c))) (fun c hc => g'.lt _ (h.lt _ (hψ c hc).1)) (fun c d hc hd e => ?_)
    have := (h.same g g' (hψ c hc).1 (hψ d hd).1).2 e
    rw [(hψ c hc).2, (hψ d hd).2] at this
    exact this
theorem Ren.calls (h : Ren N tw cl cl') (g : Rg N cl n of) (g' : Rg N cl' n' of') {x y : Nat} (hx : x < N) (hy : y < N) : of y ∈ cleX N n of cl (of x) ↔ of' (tw y) ∈ cleX N n' of' cl' (of' (tw x)) := by
  rw [mem_cleX, mem_cleX, hitX_iff, hitX_iff]
  constructor
  · rintro ⟨-, h2, f, f1, f2, z, z1, z2⟩
    refine ⟨g'.lt _ (h.lt y hy), fun e => h2 ((h.same g g' hx hy).2 e), tw f, h.lt f f1, (h.same g g' f1 hx).1 f2, tw z, ?_, (h.same g g' (h.cN f f1 z z1) hy).1 z2⟩
    rw [h.cls f f1]
    exact List.mem_map.2 ⟨z, z1, rfl⟩
  · rintro ⟨-, h2, f', f1, f2, z', z1, z2⟩
    obtain ⟨f, e1, rfl⟩ := h.on f' f1
    rw [h.cls f e1, List.mem_map] at z1
    obtain ⟨z, z0, rfl⟩ := z1
    exact ⟨g.lt y hy, fun e => h2 ((h.same g g' hx hy).1 e), f, e1, (h.same g g' e1 hx).2 f2, z, z0, (h.same g g' (h.cN f e1 z z0) hy).2 z2⟩
end

/-! ### who is reached, by going on until nothing new comes -/
structure RI (N : Nat) (cl : Nat → List Nat) (f : Nat) (todo : List Nat) (k i : Nat) : Prop where
  nd : todo.Nodup
  lt : ∀ x ∈ todo, x < N
  ff : f ∈ todo
  rc : ∀ x ∈ todo, Rch cl f x
  dn : ∀ j y, j < k → todo[j]? = some y → ∀ z ∈ cl y, z ∈ todo
  an : ∀ y, todo[k]? = some y → ∀ z ∈ (cl y).take i, z ∈ todo
section
variable {N f k i y z : Nat} {cl : Nat → List Nat} {todo : List Nat}
theorem RI.begin (hf : f < N) : RI N cl f [f] 0 0 :=
  ⟨by simp, fun x hx => by rw [List.mem_singleton] at hx; omega, by simp, fun x hx => by rw [List.mem_singleton] at hx; subst hx; exact .refl _, fun j y hj => absurd hj (Nat.not_lt_zero _), fun y _ z hz => by simp at hz⟩
theorem RI.old (h : RI N cl f todo k i) (hy : todo[k]? = some y) (hz : (cl y)[i]? = some z) (hm : z ∈ todo) : RI N cl f todo k (i + 1) := by
  refine ⟨h.nd, h.lt, h.ff, h.rc, h.dn, fun y' hy' x hx => ?_⟩
  rw [hy] at hy'
  cases hy'
  rw [List.take_add_one, List.mem_append, hz] at hx
  rcases hx with hx | hx
  · exact h.an y hy x hx
  · rw [Option.toList_some, List.mem_singleton] at hx
    subst hx
    exact hm
theorem RI.new (h : RI N cl f todo k i) (hy : todo[k]? = some y) (hz : (cl y)[i]? = some z) (hm : z ∉ todo) (hzN : z < N) : RI N cl f (todo ++ [z]) k (i + 1) := by
  have hk : k < todo.length := by
    by_cases e : k < todo.length
    · exact e
    · rw [List.getElem?_eq_none (by omega)] at hy; cases hy
  have up : ∀ x, x ∈ todo → x ∈ todo ++ [z] := fun x hx => List.mem_append_left _ hx
  refine ⟨?_, fun x hx => ?_, up _ h.ff, fun x hx => ?_, fun j u hj hu x hx => ?_, fun u hu x hx => ?_⟩
  · rw [List.nodup_append]
    refine ⟨h.nd, by simp, fun a ha b hb e => ?_⟩
    rw [List.mem_singleton] at hb
    subst hb
    subst e
    exact hm ha
  · rcases List.mem_append.1 hx with hx | hx
    · exact h.lt x hx
    · rw [List.mem_singleton] at hx; omega
  · rcases List.mem_append.1 hx with hx | hx
    · exact h.rc x hx
    · rw [List.mem_singleton] at hx
      subst hx
      exact .step (h.rc y (List.mem_of_getElem? hy)) (List.mem_of_getElem? hz)
  · rw [List.getElem?_append_left (by omega)] at hu
    exact up _ (h.dn j u hj hu x hx)
  · rw [List.getElem?_append_left hk, hy] at hu
    cases hu
    rw [List.take_add_one, List.mem_append, hz] at hx
    rcases hx with hx | hx
    · exact up _ (h.an y hy x hx)
    · rw [Option.toList_some, List.mem_singleton] at hx
      subst hx
      simp
theorem RI.next (h : RI N cl f todo k i) (hy : todo[k]? = some y) (hi : i = (cl y).length) : RI N cl f todo (k + 1) 0 := by
  refine ⟨h.nd, h.lt, h.ff, h.rc, fun j u hj hu x hx => ?_, fun u _ x hx => by simp at hx⟩
  by_cases e : j < k
  · exact h.dn j u e hu x hx
  · have ej : j = k := by omega
    subst ej
    rw [hy] at hu
    cases hu
    exact h.an y hy x (by rw [hi, List.take_length]; exact hx)
theorem RI.over (h : RI N cl f todo k i) (hk : todo.length ≤ k) (x : Nat) : Rch cl f x ↔ x ∈ todo := by
  refine ⟨fun r => ?_, h.rc x⟩
  induction r with
  | refl => exact h.ff
  | @step u v _ m ih =>
    obtain ⟨j, hj, e⟩ := List.mem_iff_getElem.1 ih
    exact h.dn j u (by omega) (by rw [List.getElem?_eq_getElem hj, e]) v m
theorem RI.len (h : RI N cl f todo k i) : todo.length ≤ N := nodup_le h.nd h.lt
end

/-! ### what Check asks, function by function; functions numbered otherwise -/
def sumN : List PF → Int
  | [] => 0
  | f :: fs => newsC f.code + sumN fs
theorem sumN_ge : ∀ fs, 0 ≤ sumN fs
  | [] => by simp [sumN]
  | f :: fs => by have := sumN_ge fs; have := newsC_ge f.code; unfold sumN; omega
structure ChkOk (G : Int) (fs : List PF) : Prop where
  e1 : rE1 G fs.length = 0
  hd : ∀ f ∈ fs, HeadOk f.P f.R f.V f.code.length
  ins : ∀ f ∈ fs, ∀ j (h : j < f.code.length), InsOk G fs f.R f.V f.code.length f.code[j] ((j : Int) == (f.code.length : Int) - 1)
  sum : sumV fs + sumN fs + 1 ≤ 1048576
theorem rFuncs_iff {G : Int} {FS : List PF} : ∀ (hs : List PF) (L : Int), L + 1 ≤ 1048576 → ((rFuncs G FS hs L 0).2 = 0 ↔ (∀ f ∈ hs, ∀ j (h : j < f.code.length), InsOk G FS f.R f.V f.code.length f.code[j] ((j : Int) == (f.code.length : Int) - 1)) ∧ L + sumN hs + 1 ≤ 1048576)
  | [], L, hL => by simp [rFuncs, sumN]; exact hL
  | g :: hs, L, hL => by
    have e1 : rFuncs G FS (g :: hs) L 0 = rFuncs G FS hs (rCode G FS g.R g.V g.code.length 0 g.code L 0).1 (rCode G FS g.R g.V g.code.length 0 g.code L 0).2 := by simp [rFuncs]
    obtain ⟨c1, c2⟩ := @rCode_iff G FS g.R g.V g.code.length g.code 0 L hL
    have hn := sumN_ge hs
    have eN : sumN (g :: hs) = newsC g.code + sumN hs := rfl
    rw [e1]
    by_cases hz : (rCode G FS g.R g.V g.code.length 0 g.code L 0).2 = 0
    · rw [hz, c2 hz]
      obtain ⟨k1, k2⟩ := c1.1 hz
      rw [rFuncs_iff hs _ k2]
      constructor
      · rintro ⟨a, b⟩
        refine ⟨fun f hf j hj => ?_, by omega⟩
        rcases List.mem_cons.1 hf with rfl | hf
        · have := k1 j hj
          rwa [Nat.zero_add] at this
        · exact a f hf j hj
      · rintro ⟨a, b⟩
        exact ⟨fun f hf => a f (List.mem_cons_of_mem _ hf), by omega⟩
    · rw [rFuncs_ne _ _ _ _ hz]
      refine ⟨fun h => absurd h hz, fun ⟨a, b⟩ => absurd (c1.2 ⟨fun j hj => by rw [Nat.zero_add]; exact a g (List.mem_cons_self ..) j hj, by omega⟩) hz⟩
theorem sumV_nn : ∀ (l : List PF), (∀ h ∈ l, HeadOk h.P h.R h.V h.code.length) → 0 ≤ sumV l
  | [], _ => by simp [sumV]
  | a :: l, h => by
    have h1 := (h a (List.mem_cons_self ..)).V
    have h2 := sumV_nn l (fun x hx => h x (List.mem_cons_of_mem _ hx))
    unfold sumV
    omega
theorem checkP_iff {G : Int} {fs : List PF} : checkP G fs = 0 ↔ ChkOk G fs := by
  rw [checkP_eq]
  unfold rAll rHd
  by_cases he : rE1 G fs.length = 0
  · rw [he]
    obtain ⟨r1, r2⟩ := rHeads_iff fs 0 (by omega)
    by_cases hz : (rHeads fs 0 0).2 = 0
    · obtain ⟨q1, q2⟩ := r1.1 hz
      rw [hz, r2 hz, rFuncs_iff fs _ q2]
      constructor
      · rintro ⟨a, b⟩
        exact ⟨he, q1, a, by omega⟩
      · intro h
        exact ⟨h.ins, by have := h.sum; omega⟩
    · rw [rFuncs_ne _ _ _ _ hz]
      refine ⟨fun h => absurd h hz, fun h => absurd (r1.2 ⟨h.hd, ?_⟩) hz⟩
      have := sumN_ge fs
      have := h.sum
      omega
  · rw [rHeads_ne _ _ he, rFuncs_ne _ _ _ _ he]
    exact ⟨fun h => absurd h he, fun h => absurd h.e1 he⟩
/-- An instruction whose call has another number. -/
def renI (tw : Nat → Nat) (c : PI) : PI := if c.op = 11 then { c with n := (tw c.n.toNat : Nat) } else c
def renF (tw : Nat → Nat) (f : PF) : PF := { f with code := f.code.map (renI tw) }
theorem renI_op (tw : Nat → Nat) (c : PI) : (renI tw c).op = c.op := by unfold renI; split <;> rfl
theorem newsC_ren (tw : Nat → Nat) : ∀ cs : List PI, newsC (cs.map (renI tw)) = newsC cs
  | [] => rfl
  | c :: cs => by
    show (if (renI tw c).op = 6 then 1 else 0) + newsC (cs.map (renI tw)) = _
    rw [renI_op, newsC_ren tw cs]
    rfl
theorem callX_ren (tw : Nat → Nat) (cs : List PI) : callX (cs.map (renI tw)) = (callX cs).map tw := by
  unfold callX
  induction cs with
  | nil => rfl
  | cons c cs ih =>
    by_cases h : c.op = 11
    · have h1 : (renI tw c).op = 11 := by rw [renI_op]; exact h
      have h2 : (renI tw c).n = (tw c.n.toNat : Nat) := by unfold renI; rw [if_pos h]
      simp only [List.map_cons, List.filter_cons, h, h1, beq_self_eq_true, if_true, List.map_cons, h2, Int.toNat_natCast]
      rw [ih]
    · have h1 : ¬ (renI tw c).op = 11 := by rw [renI_op]; exact h
      have h2 : (c.op == 11) = false := by simp [h]
      have h3 : ((renI tw c).op == 11) = false := by simp [h1]
      simp only [List.map_cons, List.filter_cons, h2, h3]
      exact ih
theorem ins_ren {G : Int} {fs fs' : List PF} {R V : Int} {fl : Nat} {c : PI} {last : Bool} {tw : Nat → Nat} (hl : fs'.length = fs.length)
    (hp : ∀ x, x < fs.length → tw x < fs.length ∧ calleeP fs' (tw x : Nat) = calleeP fs (x : Nat) ∧ calleeR fs' (tw x : Nat) = calleeR fs (x : Nat)) (h : InsOk G fs R V fl c last) : InsOk G fs' R V fl (renI tw c) last := by
  obtain ⟨h1, h2, h3, h4⟩ := h
  by_cases e : c.op = 11
  · have k := h4 70 (by rw [e]; decide)
    unfold letE at k
    rw [if_neg (by decide), if_neg (by decide), if_neg (by decide), if_neg (by decide), if_neg (by decide), if_neg (by decide), if_neg (by decide), if_neg (by decide), if_neg (by decide), if_pos rfl, mustE_iff (by decide)] at k
    have kk := k.1
    unfold numB at kk
    simp only [Bool.and_eq_true, decide_eq_true_eq] at kk
    obtain ⟨x, hx⟩ : ∃ x : Nat, c.n = (x : Int) := ⟨c.n.toNat, by omega⟩
    obtain ⟨p1, p2, p3⟩ := hp x (by omega)
    have en : renI tw c = { c with n := (tw x : Nat) } := by unfold renI; rw [if_pos e, hx, Int.toNat_natCast]
    rw [en]
    refine ⟨h1, ?_, h3, fun u hu => ?_⟩
    · have h70 : namesB 11 70 = true := by decide
      revert h2
      show plainB c.op c.r c.s c.t c.n c.args.length c.rets.length = true → plainB c.op c.r c.s c.t (tw x : Nat) c.args.length c.rets.length = true
      rw [e]
      unfold plainB
      simp [tested, h70, zzOf, zeros6]
    · have ho := h4 u hu
      have : u = 65 ∨ u = 66 ∨ u = 70 := by
        revert hu
        show u ∈ (partsN c.op.toNat).toList → _
        rw [e]
        show u ∈ (partsN 11).toList → _
        simp [partsN]
        rintro (h | h | h)
        all_goals (first | exact Or.inl h | exact Or.inr (Or.inl h) | exact Or.inr (Or.inr h))
      rcases this with rfl | rfl | rfl
      · unfold letE at ho ⊢
        rw [if_neg (by decide), if_neg (by decide), if_neg (by decide), if_pos rfl] at ho ⊢
        show listE (calleeP fs' (tw x : Nat)) V c.args 0 = 0
        rw [p2, ← hx]
        exact ho
      · unfold letE at ho ⊢
        rw [if_neg (by decide), if_neg (by decide), if_neg (by decide), if_neg (by decide), if_pos rfl] at ho ⊢
        show listE (calleeR fs' (tw x : Nat)) V c.rets 0 = 0
        rw [p3, ← hx]
        exact ho
      · unfold letE
        rw [if_neg (by decide), if_neg (by decide), if_neg (by decide), if_neg (by decide), if_neg (by decide), if_neg (by decide), if_neg (by decide), if_neg (by decide), if_neg (by decide), if_pos rfl, mustE_iff (by decide)]
        refine ⟨?_, rfl⟩
        unfold numB
        simp only [Bool.and_eq_true, decide_eq_true_eq]
        show (0 : Int) ≤ (tw x : Nat) ∧ ((tw x : Nat) : Int) < (fs'.length : Nat)
        omega
  · have en : renI tw c = c := by unfold renI; rw [if_neg e]
    rw [en]
    refine ⟨h1, h2, h3, fun u hu => ?_⟩
    have ho := h4 u hu
    have n65 : u ≠ 65 ∧ u ≠ 66 := by
      have hop : c.op.toNat = 11 → c.op = 11 := by omega
      by_cases hk : c.op.toNat < 18
      · have := (parts_letters c.op.toNat hk u hu).2
        exact ⟨fun x => e (hop (this (Or.inl x))), fun x => e (hop (this (Or.inr x)))⟩
      · rw [partsN_big _ (by omega)] at hu
        cases hu
    unfold letE at ho ⊢
    rw [if_neg n65.1, if_neg n65.2] at ho ⊢
    rw [hl]
    exact ho

theorem sumV_perm {a b : List PF} (h : a.Perm b) : sumV a = sumV b := by
  induction h with
  | nil => rfl
  | cons x _ ih => show x.V + _ = x.V + _; rw [ih]
  | swap x y l => show y.V + (x.V + sumV l) = x.V + (y.V + sumV l); omega
  | trans _ _ i1 i2 => exact i1.trans i2
theorem sumN_perm {a b : List PF} (h : a.Perm b) : sumN a = sumN b := by
  induction h with
  | nil => rfl
  | cons x _ ih => show newsC x.code + _ = newsC x.code + _; rw [ih]
  | swap x y l => show newsC y.code + (newsC x.code + sumN l) = newsC x.code + (newsC y.code + sumN l); omega
  | trans _ _ i1 i2 => exact i1.trans i2
theorem sumV_ren (tw : Nat → Nat) : ∀ fs : List PF, sumV (fs.map (renF tw)) = sumV fs
  | [] => rfl
  | f :: fs => by show f.V + sumV (fs.map (renF tw)) = f.V + sumV fs; rw [sumV_ren tw fs]
theorem sumN_ren (tw : Nat → Nat) : ∀ fs : List PF, sumN (fs.map (renF tw)) = sumN fs
  | [] => rfl
  | f :: fs => by show newsC (f.code.map (renI tw)) + sumN (fs.map (renF tw)) = newsC f.code + sumN fs; rw [sumN_ren tw fs, newsC_ren]
/-- A program numbered otherwise. -/
structure RnP (tw : Nat → Nat) (fs fs' : List PF) : Prop where
  len : fs'.length = fs.length
  lt : ∀ x, x < fs.length → tw x < fs.length
  inj : ∀ x y, x < fs.length → y < fs.length → tw x = tw y → x = y
  on : ∀ y, y < fs.length → ∃ x, x < fs.length ∧ tw x = y
  fn : ∀ x (h : x < fs.length), fs'[tw x]? = some (renF tw fs[x])
section
variable {tw : Nat → Nat} {fs fs' : List PF}
theorem RnP.mem (h : RnP tw fs fs') {f : PF} (hf : f ∈ fs') : ∃ x, ∃ hx : x < fs.length, f = renF tw fs[x] := by
  obtain ⟨y, hy, e⟩ := List.mem_iff_getElem.1 hf
  obtain ⟨x, hx, ex⟩ := h.on y (by rw [← h.len]; exact hy)
  refine ⟨x, hx, ?_⟩
  have := h.fn x hx
  rw [ex, List.getElem?_eq_getElem hy] at this
  injection this with this
  rw [← this, e]
theorem RnP.perm (h : RnP tw fs fs') : (fs.map (renF tw)).Perm fs' := by
  have p1 : ((List.range fs.length).map tw).Perm (List.range fs.length) := by
    rw [List.perm_ext_iff_of_nodup _ List.nodup_range]
    · intro y
      rw [List.mem_map, List.mem_range]
      constructor
      · rintro ⟨x, hx, rfl⟩
        exact h.lt x (List.mem_range.1 hx)
      · intro hy
        obtain ⟨x, hx, e⟩ := h.on y hy
        exact ⟨x, List.mem_range.2 hx, e⟩
    · rw [List.Nodup, List.pairwise_map]
      refine List.Pairwise.imp_of_mem ?_ (List.pairwise_lt_range (n := fs.length))
      intro x y hx hy hxy e
      rw [List.mem_range] at hx hy
      have := h.inj x y hx hy e
      omega
  have p2 := p1.map (fun y => fs'.getD y ⟨0, 0, 0, []⟩)
  have e1 : (List.range fs.length).map (fun y => fs'.getD y ⟨0, 0, 0, []⟩) = fs' := by
    apply List.ext_getElem
    · simp [h.len]
    · intro i h1 h2
      simp [List.getD_eq_getElem?_getD, h2]
  have e2 : ((List.range fs.length).map tw).map (fun y => fs'.getD y ⟨0, 0, 0, []⟩) = fs.map (renF tw) := by
    apply List.ext_getElem
    · simp
    · intro i h1 h2
      have hi : i < fs.length := by simpa using h2
      simp [List.getD_eq_getElem?_getD, h.fn i hi]
  rw [e1, e2] at p2
  exact p2
theorem RnP.callee (h : RnP tw fs fs') : ∀ x, x < fs.length → tw x < fs.length ∧ calleeP fs' (tw x : Nat) = calleeP fs (x : Nat) ∧ calleeR fs' (tw x : Nat) = calleeR fs (x : Nat) := fun x hx => by
  refine ⟨h.lt x hx, ?_, ?_⟩
  · unfold calleeP
    rw [Int.toNat_natCast, Int.toNat_natCast, h.fn x hx, List.getElem?_eq_getElem hx]
    rfl
  · unfold calleeR
    rw [Int.toNat_natCast, Int.toNat_natCast, h.fn x hx, List.getElem?_eq_getElem hx]
    rfl
theorem RnP.check (h : RnP tw fs fs') {G : Int} (hc : checkP G fs = 0) : checkP G fs' = 0 := by
  rw [checkP_iff] at hc ⊢
  refine ⟨by rw [h.len]; exact hc.e1, fun f hf => ?_, fun f hf j hj => ?_, ?_⟩
  · obtain ⟨x, hx, rfl⟩ := h.mem hf
    have := hc.hd _ (List.getElem_mem hx)
    show HeadOk fs[x].P fs[x].R fs[x].V (((fs[x].code.map (renI tw)).length : Nat) : Int)
    rw [List.length_map]
    exact this
  · obtain ⟨x, hx, rfl⟩ := h.mem hf
    have hj' : j < fs[x].code.length := by simpa [renF] using hj
    have := ins_ren h.len h.callee (hc.ins _ (List.getElem_mem hx) j hj')
    have e1 : (renF tw fs[x]).code[j] = renI tw fs[x].code[j] := by simp [renF]
    have e2 : (renF tw fs[x]).code.length = fs[x].code.length := by simp [renF]
    rw [e1, e2]
    exact this
  · rw [← sumV_perm h.perm, ← sumN_perm h.perm, sumV_ren, sumN_ren]
    exact hc.sum
theorem RnP.ren (h : RnP tw fs fs') (hok : CallOk fs) : Ren fs.length tw (clX fs) (clX fs') := by
  refine ⟨h.lt, h.inj, h.on, fun x hx => ?_, fun x hx => clX_lt hok hx⟩
  have hy : tw x < fs'.length := by rw [h.len]; exact h.lt x hx
  have e := h.fn x hx
  rw [List.getElem?_eq_getElem hy] at e
  injection e with e
  rw [clX_at hy, e, clX_at hx]
  exact callX_ren tw _
end
end Go.Proofs.YtjmbfjaahadbhaaDoor
