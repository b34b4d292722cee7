import Derived.Test.YtmdlebolmhnhaaaD3
namespace Go.Proofs.Ytmdlebolmhnhaaa
open Go.RowKit (wrap32 wrap64)
open Go.Maps (Keyed)
set_option linter.unusedVariables false
set_option linter.unusedSimpArgs false

theorem one_any (b : Nat) (g : Gh) (a : Abs) (o : OpR) (w : World) (h : Mem w b g a) {N : Nat} (hf : Fine N a) (hN : N ≤ 10000000000000) (h9 : o.kind ≠ 9) (h10 : o.kind ≠ 10) :
    Calls Try.prog 20 #[ptr b, opV o] w (OneEnds b g (oneX a o) w) := by
  unfold oneX
  by_cases h2 : o.kind = 2
  · rw [if_pos h2]; exact one_push b g a o w h hf hN h2
  rw [if_neg h2]
  by_cases h3 : o.kind = 3
  · rw [if_pos h3]; exact one_pop b g a o w h hf hN h3
  rw [if_neg h3]
  by_cases h4 : o.kind = 4
  · rw [if_pos h4]; exact one_make b g a o w h hf hN h4
  rw [if_neg h4]
  by_cases h5 : o.kind = 5
  · rw [if_pos h5]; exact one_load b g a o w h hf hN h5
  rw [if_neg h5]
  by_cases h6 : o.kind = 6
  · rw [if_pos h6]; exact one_store b g a o w h hf hN h6
  rw [if_neg h6]
  by_cases h7 : o.kind = 7
  · rw [if_pos h7]; exact one_global b g a o w h hf hN h7
  rw [if_neg h7]
  by_cases h8 : o.kind = 8
  · rw [if_pos h8]; exact one_set b g a o w h hf hN h8
  rw [if_neg h8]
  exact one_none b g a o w h h2 h3 h4 h5 h6 h7 h8 h9 h10

theorem Fine.mono {N N' : Nat} {a : Abs} (h : Fine N a) (hN : N ≤ N') : Fine N' a :=
  ⟨Nat.le_trans h.made hN, Nat.le_trans h.frs hN, Nat.le_trans h.pss hN, fun p hp => Nat.le_trans (h.pbd p hp) hN⟩

theorem Fine.push {N : Nat} {a : Abs} (h : Fine N a) : Fine (N + 1) (pushX a) :=
  ⟨Nat.le_succ_of_le h.made, by have := h.frs; simp [pushX]; omega, Nat.le_succ_of_le h.pss, fun p hp => Nat.le_succ_of_le (h.pbd p hp)⟩
theorem Fine.pop {N : Nat} {a : Abs} (h : Fine N a) : Fine N (popX a).1 := by
  unfold popX
  split
  · exact h
  · refine ⟨h.made, ?_, ?_, fun p hp => h.pbd p (List.mem_of_mem_take hp)⟩
    · have := h.frs; simp; omega
    · have := h.pss; simp; omega
theorem Fine.make {N : Nat} {a : Abs} (h : Fine N a) (n : Int) (heap : Bool) : Fine (N + 1) (makeX a n heap).1 := by
  have e1 := h.made
  have e2 := h.frs
  have e3 := h.pss
  unfold makeX
  split
  · exact h.mono (Nat.le_succ _)
  · split
    · exact h.mono (Nat.le_succ _)
    · cases heap
      · refine ⟨by simp [mkA]; omega, by simp [mkA]; omega, by simp; omega, fun p hp => ?_⟩
        simp at hp
        rcases hp with hp | rfl
        · exact Nat.le_succ_of_le (h.pbd p hp)
        · omega
      · exact ⟨by simp [mkA]; omega, by simp [mkA]; omega, by simp [mkA]; omega, fun p hp => Nat.le_succ_of_le (h.pbd p (by simpa [mkA] using hp))⟩
theorem Fine.store {N : Nat} {a : Abs} (h : Fine N a) (v : Val) (f : Int) (x : Val) : Fine N (storeX a v f x).1 := by
  unfold storeX
  split
  · exact h
  · split
    · exact h
    · split
      · exact h
      · split
        · exact ⟨h.made, h.frs, h.pss, h.pbd⟩
        · exact h
theorem Fine.set {N : Nat} {a : Abs} (h : Fine N a) (n : Int) (x : Val) : Fine N (setGlobalX a n x).1 := by
  unfold setGlobalX
  split
  · exact ⟨h.made, h.frs, h.pss, h.pbd⟩
  · exact h
theorem Fine.one {N : Nat} {a : Abs} (h : Fine N a) (o : OpR) : Fine (N + 1) (oneX a o).1 := by
  unfold oneX
  have hm := h.mono (Nat.le_succ N)
  split
  · exact h.push
  split
  · exact h.pop.mono (Nat.le_succ N)
  split
  · exact h.make _ _
  split
  · exact hm
  split
  · exact (h.store _ _ _).mono (Nat.le_succ N)
  split
  · exact hm
  split
  · exact (h.set _ _).mono (Nat.le_succ N)
  · exact hm

/-! ### the same script with all on the heap -/
structure Pl (A B : Abs) : Prop where
  gl : A.gl = B.gl
  made : A.made = B.made
  frs : A.frs = B.frs
  pss : B.pss = []
  cells : ∀ i, 1 ≤ i → i ≤ A.made → ∃ l, B.cells i = some l ∧ (A.cells i = none ∨ A.cells i = some l)

/-- Where cells lie is seen by what dangles alone. -/
def Alike (ra rb : Abs × Int × Val × Int) : Prop := rb.2.2.2 ≠ 32 ∧ (ra.2.2.2 = 32 ∨ (ra.2.1 = rb.2.1 ∧ ra.2.2.1 = rb.2.2.1 ∧ ra.2.2.2 = rb.2.2.2 ∧ ra.2.2.2 ≠ 32 ∧ Pl ra.1 rb.1))

theorem right_range {made : Nat} {v : Val} (h : rightB made v = true) (h2 : v.1 = 2) : 1 ≤ v.2.toNat ∧ v.2.toNat ≤ made := by
  unfold rightB at h
  rw [h2] at h
  simp at h
  omega

theorem Pl.pop {A B : Abs} (h : Pl A B) : (popX A).2 = (popX B).2 ∧ (popX B).2 ≠ 32 ∧ Pl (popX A).1 (popX B).1 := by
  unfold popX
  rw [← h.frs]
  split
  · exact ⟨rfl, by simp, h⟩
  · refine ⟨rfl, by simp, ⟨h.gl, h.made, by simp [h.frs], by simp [h.pss], fun i h1 h2 => ?_⟩⟩
    obtain ⟨l, hb, ha⟩ := h.cells i h1 h2
    refine ⟨l, ?_, ?_⟩
    · simp only [h.pss, List.drop_nil, gone_nil]; exact hb
    · simp only [gone]
      split
      · exact Or.inl rfl
      · exact ha

theorem Pl.make {A B : Abs} (h : Pl A B) (n : Int) (heap : Bool) : (makeX A n heap).2 = (makeX B n true).2 ∧ (makeX B n true).2.2 ≠ 32 ∧ Pl (makeX A n heap).1 (makeX B n true).1 := by
  unfold makeX
  rw [← h.frs, ← h.made]
  split
  · exact ⟨rfl, by simp, h⟩
  · split
    · exact ⟨rfl, by simp, h⟩
    · refine ⟨rfl, by simp, ?_⟩
      have key : ∀ i, 1 ≤ i → i ≤ A.made + 1 → ∃ l, (mkA B n.toNat).cells i = some l ∧ ((mkA A n.toNat).cells i = none ∨ (mkA A n.toNat).cells i = some l) := by
        intro i h1 h2
        simp only [mkA, upd, ← h.made]
        by_cases hi : i = A.made + 1
        · simp [hi]
        · simp only [hi, if_false]
          exact h.cells i h1 (by omega)
      cases heap
      · exact ⟨h.gl, by simp [mkA, h.made], h.frs, h.pss, key⟩
      · exact ⟨h.gl, by simp [mkA, h.made], h.frs, h.pss, key⟩

theorem Pl.load {A B : Abs} (h : Pl A B) (v : Val) (f : Int) : (loadX B v f).2 ≠ 32 ∧ ((loadX A v f).2 = 32 ∨ (loadX A v f = loadX B v f ∧ (loadX A v f).2 ≠ 32)) := by
  unfold loadX
  rw [← h.made]
  cases hr : rightB A.made v with
  | false => simp
  | true =>
    simp only [Bool.true_eq_false, if_false]
    by_cases h2 : v.1 = 2
    · obtain ⟨h1, hm⟩ := right_range hr h2
      obtain ⟨l, hb, ha⟩ := h.cells _ h1 hm
      simp only [h2, ne_eq, not_true_eq_false, if_false, hb]
      rcases ha with ha | ha
      · rw [ha]
        refine ⟨?_, Or.inl rfl⟩
        split <;> simp
      · rw [ha]
        simp only
        split
        · exact ⟨by simp, Or.inr ⟨by first | rfl | trivial, by simp⟩⟩
        · exact ⟨by simp, Or.inr ⟨by first | rfl | trivial, by simp⟩⟩
    · simp [h2]

theorem Pl.store {A B : Abs} (h : Pl A B) (v : Val) (f : Int) (x : Val) : (storeX B v f x).2 ≠ 32 ∧ ((storeX A v f x).2 = 32 ∨ ((storeX A v f x).2 = (storeX B v f x).2 ∧ (storeX A v f x).2 ≠ 32 ∧ Pl (storeX A v f x).1 (storeX B v f x).1)) := by
  unfold storeX
  rw [← h.made]
  by_cases hr : rightB A.made v = false ∨ rightB A.made x = false
  · simp only [hr, if_true]
    exact ⟨by simp, Or.inr ⟨by first | rfl | trivial, by simp, h⟩⟩
  · simp only [hr, if_false]
    have hr' : rightB A.made v = true := by
      cases e : rightB A.made v
      · exact absurd (Or.inl e) hr
      · rfl
    by_cases h2 : v.1 = 2
    · obtain ⟨h1, hm⟩ := right_range hr' h2
      obtain ⟨l, hb, ha⟩ := h.cells _ h1 hm
      simp only [h2, ne_eq, not_true_eq_false, if_false, hb]
      rcases ha with ha | ha
      · rw [ha]
        refine ⟨?_, Or.inl rfl⟩
        split <;> simp
      · rw [ha]
        simp only
        split
        · refine ⟨by simp, Or.inr ⟨by first | rfl | trivial, by simp, ⟨h.gl, by first | rfl | exact h.made, h.frs, h.pss, fun i i1 i2 => ?_⟩⟩⟩
          simp only [upd]
          by_cases hi : i = v.2.toNat
          · simp [hi]
          · simp only [hi, if_false]
            exact h.cells i i1 i2
        · exact ⟨by simp, Or.inr ⟨by first | rfl | trivial, by simp, h⟩⟩
    · simp only [h2, ne_eq, not_false_eq_true, if_true]
      exact ⟨by simp, Or.inr ⟨by first | rfl | trivial, by simp, h⟩⟩

theorem Pl.one {A B : Abs} (h : Pl A B) (o : OpR) : Alike (oneX A o) (oneX B { o with heap := true }) := by
  unfold oneX Alike
  simp only
  split
  · exact ⟨by simp, Or.inr ⟨rfl, rfl, rfl, by simp, ⟨h.gl, h.made, by simp [pushX, h.frs, h.made], h.pss, h.cells⟩⟩⟩
  split
  · obtain ⟨h1, h2, h3⟩ := h.pop
    exact ⟨h2, Or.inr ⟨rfl, rfl, h1, by rw [h1]; exact h2, h3⟩⟩
  split
  · obtain ⟨h1, h2, h3⟩ := h.make o.n o.heap
    have e1 : (makeX A o.n o.heap).2.1 = (makeX B o.n true).2.1 := by rw [h1]
    have e2 : (makeX A o.n o.heap).2.2 = (makeX B o.n true).2.2 := by rw [h1]
    exact ⟨h2, Or.inr ⟨e1, rfl, e2, by rw [e2]; exact h2, h3⟩⟩
  split
  · obtain ⟨h1, h2⟩ := h.load o.v o.n
    refine ⟨h1, ?_⟩
    rcases h2 with h2 | ⟨h2, h3⟩
    · exact Or.inl h2
    · exact Or.inr ⟨rfl, by rw [h2], by rw [h2], h3, h⟩
  split
  · obtain ⟨h1, h2⟩ := h.store o.v o.n o.w
    refine ⟨h1, ?_⟩
    rcases h2 with h2 | ⟨h2, h3, h4⟩
    · exact Or.inl h2
    · exact Or.inr ⟨rfl, rfl, h2, h3, h4⟩
  split
  · have e : globalX A o.n = globalX B o.n := by unfold globalX; rw [h.gl]
    rw [e]
    have : (globalX B o.n).2 ≠ 32 := by unfold globalX; split <;> simp
    exact ⟨this, Or.inr ⟨rfl, rfl, rfl, this, h⟩⟩
  split
  · unfold setGlobalX
    rw [← h.gl, ← h.made]
    split
    · exact ⟨by simp, Or.inr ⟨rfl, rfl, rfl, by simp, ⟨by simp, by first | rfl | exact h.made, h.frs, h.pss, h.cells⟩⟩⟩
    · exact ⟨by simp, Or.inr ⟨rfl, rfl, rfl, by simp, h⟩⟩
  · exact ⟨by simp, Or.inr ⟨rfl, rfl, rfl, by simp, h⟩⟩

end Go.Proofs.Ytmdlebolmhnhaaa
