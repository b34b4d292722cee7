import Derived.Test.YtjmbfjaahadbhaaDoorQIh
set_option linter.unusedVariables false
set_option linter.unusedSimpArgs false
namespace Go.Proofs.YtjmbfjaahadbhaaDoor
open Go.RowKit (wrap32 wrap64)

/-! ### chains and rings are right -/
theorem rFuncs_back {G : Int} {FS : List PF} : ∀ (hs : List PF) (L : Int), L + 1 ≤ 1048576 → (∀ f ∈ hs, (∀ j (h : j < f.code.length), InsOk G FS f.R f.V f.code.length f.code[j] ((j : Int) == (f.code.length : Int) - 1)) ∧ newsC f.code = 0) → (rFuncs G FS hs L 0).2 = 0
  | [], _, _, _ => rfl
  | g :: hs, L, hL, h => by
    have e1 : rFuncs G FS (g :: hs) L 0 = rFuncs G FS hs (rCode G FS g.R g.V g.code.length 0 g.code L 0).1 (rCode G FS g.R g.V g.code.length 0 g.code L 0).2 := by simp [rFuncs]
    rw [e1]
    obtain ⟨c1, c2⟩ := @rCode_iff G FS g.R g.V g.code.length g.code 0 L hL
    obtain ⟨k1, k2⟩ := h g (List.mem_cons_self ..)
    have hz : (rCode G FS g.R g.V g.code.length 0 g.code L 0).2 = 0 := c1.2 ⟨fun j hj => by rw [Nat.zero_add]; exact k1 j hj, by omega⟩
    rw [hz, c2 hz, k2]
    exact rFuncs_back hs _ (by omega) (fun f hf => h f (List.mem_cons_of_mem _ hf))
theorem ins_back {G : Int} {FS : List PF} {fl : Nat} (last : Bool) : InsOk G FS 0 0 fl bI last := by
  refine ⟨by decide, by decide, by unfold lastB; simp, fun u hu => ?_⟩
  have : u = 86 := by
    revert hu
    show u ∈ (partsN 15).toList → _
    simp [partsN]
  subst this
  unfold letE
  rw [if_neg (by decide), if_neg (by decide), if_neg (by decide), if_neg (by decide), if_neg (by decide), if_pos rfl]
  rfl
theorem plain_call (m : Int) : plainB 11 0 0 0 m 0 0 = true := by
  unfold plainB
  have h70 : namesB 11 70 = true := by decide
  simp [tested, h70, zzOf, zeros6]
theorem ins_call {G : Int} {FS : List PF} {fl : Nat} (m : Nat) (hm : m < FS.length) (hh : ∀ f ∈ FS, f.P = 0 ∧ f.R = 0) : InsOk G FS 0 0 fl (cI (m : Int)) false := by
  refine ⟨by show opB 11 = true; decide, plain_call m, by unfold lastB; simp, fun u hu => ?_⟩
  have hp : calleeP FS (m : Int) = 0 := by
    unfold calleeP
    rw [Int.toNat_natCast, List.getElem?_eq_getElem hm]
    exact (hh _ (List.getElem_mem hm)).1
  have hr : calleeR FS (m : Int) = 0 := by
    unfold calleeR
    rw [Int.toNat_natCast, List.getElem?_eq_getElem hm]
    exact (hh _ (List.getElem_mem hm)).2
  have : u = 65 ∨ u = 66 ∨ u = 70 := by
    revert hu
    show u ∈ (partsN 11).toList → _
    simp [partsN]
    rintro (h | h | h)
    all_goals (first | exact Or.inl h | exact Or.inr (Or.inl h) | exact Or.inr (Or.inr h))
  rcases this with rfl | rfl | rfl
  · unfold letE
    rw [if_neg (by decide), if_neg (by decide), if_neg (by decide), if_pos rfl]
    show listE (calleeP FS (m : Int)) 0 [] 0 = 0
    rw [hp]; rfl
  · unfold letE
    rw [if_neg (by decide), if_neg (by decide), if_neg (by decide), if_neg (by decide), if_pos rfl]
    show listE (calleeR FS (m : Int)) 0 [] 0 = 0
    rw [hr]; rfl
  · unfold letE
    rw [if_neg (by decide), if_neg (by decide), if_neg (by decide), if_neg (by decide), if_neg (by decide), if_neg (by decide), if_neg (by decide), if_neg (by decide), if_neg (by decide), if_pos rfl]
    rw [mustE_iff (by decide)]
    refine ⟨?_, rfl⟩
    unfold numB
    simp
    omega
theorem sumV_zero : ∀ (fs : List PF), (∀ f ∈ fs, f.V = 0) → sumV fs = 0
  | [], _ => rfl
  | f :: fs, h => by
    have k1 := h f (List.mem_cons_self ..)
    have k2 := sumV_zero fs (fun g hg => h g (List.mem_cons_of_mem _ hg))
    show f.V + sumV fs = 0
    omega
theorem chain_check (N : Nat) (ring : Bool) (h1 : 1 ≤ N) (h2 : N ≤ 65535) : checkP 0 (chF N ring N) = 0 := by
  have hmem : ∀ f ∈ chF N ring N, ∃ k, k < N ∧ f = ⟨0, 0, 0, codeC N ring k⟩ := fun f hf => by
    unfold chF at hf
    rw [List.mem_map] at hf
    obtain ⟨k, hk, e⟩ := hf
    exact ⟨k, List.mem_range.1 hk, e.symm⟩
  have hz : ∀ f ∈ chF N ring N, f.P = 0 ∧ f.R = 0 := fun f hf => by
    obtain ⟨k, -, e⟩ := hmem f hf
    rw [e]; exact ⟨rfl, rfl⟩
  have hl := chF_len N ring N
  rw [checkP_eq]
  unfold rAll rHd
  have he : rE1 0 (chF N ring N).length = 0 := by
    unfold rE1 rE0
    rw [mustE_iff (by decide), mustE_iff (by decide), hl]
    simp
    omega
  rw [he]
  obtain ⟨r1, r2⟩ := rHeads_iff (chF N ring N) 0 (by omega)
  have hv : sumV (chF N ring N) = 0 := sumV_zero _ (fun f hf => by
    obtain ⟨k, -, e⟩ := hmem f hf
    rw [e])
  have hh : (rHeads (chF N ring N) 0 0).2 = 0 := r1.2 ⟨fun f hf => by
    obtain ⟨k, -, e⟩ := hmem f hf
    rw [e]
    refine ⟨by show smallB 0 0 0 = true; decide, ?_, ?_⟩
    · show ((codeC N ring k).length : Int) ≤ 4096
      unfold codeC
      split
      · simp
      · split <;> simp
    · show (1 : Int) ≤ ((codeC N ring k).length : Int)
      unfold codeC
      split
      · simp
      · split <;> simp, by rw [hv]; omega⟩
  rw [hh, r2 hh, hv]
  refine rFuncs_back _ _ (by omega) (fun f hf => ?_)
  obtain ⟨k, hk, e⟩ := hmem f hf
  rw [e]
  show (∀ j (h : j < (codeC N ring k).length), InsOk 0 (chF N ring N) 0 0 (codeC N ring k).length (codeC N ring k)[j] ((j : Int) == ((codeC N ring k).length : Int) - 1)) ∧ newsC (codeC N ring k) = 0
  have two : ∀ m : Nat, m < N → (∀ j (h : j < [cI (m : Int), bI].length), InsOk 0 (chF N ring N) 0 0 [cI (m : Int), bI].length [cI (m : Int), bI][j] ((j : Int) == ([cI (m : Int), bI].length : Int) - 1)) ∧ newsC [cI (m : Int), bI] = 0 := fun m hm => by
    refine ⟨fun j hj => ?_, by simp [newsC]⟩
    have : j = 0 ∨ j = 1 := by simp at hj; omega
    rcases this with rfl | rfl
    · exact ins_call m (by rw [hl]; exact hm) hz
    · exact ins_back _
  unfold codeC
  by_cases e1 : k + 1 < N
  · rw [if_pos e1]
    exact two (k + 1) e1
  · rw [if_neg e1]
    cases ring with
    | true => exact two 0 (by omega)
    | false =>
      refine ⟨fun j hj => ?_, by simp [newsC]⟩
      have : j = 0 := by simp at hj; omega
      subst this
      exact ins_back _
end Go.Proofs.YtjmbfjaahadbhaaDoor
