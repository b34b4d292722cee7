import Derived.Test.YtmdlebolmhnhaaaB4
namespace Go.Proofs.Ytmdlebolmhnhaaa
open Go.RowKit (wrap32 wrap64)
open Go.Maps (Keyed)
set_option linter.unusedVariables false
set_option linter.unusedSimpArgs false

theorem IsCut.unique {num : Nat} {l : List Nat} {k k' : Nat} (h : IsCut num l k) (h' : IsCut num l k') : k = k' := by
  have aux : ∀ {k k' : Nat}, IsCut num l k → IsCut num l k' → ¬ k < k' := by
    intro k k' h h' hlt
    obtain ⟨h1, h2, h3⟩ := h
    obtain ⟨g1, g2, g3⟩ := h'
    have hk : k' - 1 < l.length := by omega
    have e := List.getElem?_eq_getElem hk
    have := h2 (k' - 1) _ (by omega) e
    have := g3 _ (by omega) e
    omega
  have := aux h h'
  have := aux h' h
  omega

theorem isCut_zero {num : Nat} {l : List Nat} (h : ∀ p ∈ l, num < p) : IsCut num l 0 := ⟨Nat.zero_le _, fun j p _ e => h p (List.mem_of_getElem? e), fun p h => by omega⟩
theorem isCut_all {num : Nat} {l : List Nat} (h : ∀ p ∈ l, p ≤ num) : IsCut num l l.length := ⟨Nat.le_refl _, (fun j p hj e => by rw [List.getElem?_eq_none hj] at e; cases e), fun p _ e => h p (List.mem_of_getElem? e)⟩

theorem PopX.is {a a' : Abs} (h : PopX a a') {l : List Nat} {num k : Nat} (hf : a.frs = l ++ [num]) (hk : IsCut num a.pss k) : a' = { a with cells := gone a.cells (a.pss.drop k), pss := a.pss.take k, frs := l } := by
  obtain ⟨num', k', e, hc, rfl⟩ := h
  rw [hf] at e
  rw [List.dropLast_concat] at e
  have e' : num = num' := by simpa using e
  subst e'
  rw [IsCut.unique hc hk, hf, List.dropLast_concat]

/-- All that is owned lies behind what was there. -/
def OwnNew (s : Nat) (g : Gh) : Prop := ∀ k, g.own k ≠ 0 → s ≤ k
theorem OwnNew.ext {s s' : Nat} {g g' : Gh} (h : OwnNew s g) (x : Ext s' g g') (hs : s ≤ s') : OwnNew s g' := fun k hk => by
  rcases Nat.lt_or_ge k s' with h1 | h1
  · rw [x k h1] at hk; exact h k hk
  · omega
theorem Fr.anew {a b c : World} {g : Gh} (h : Fr (fun _ => False) a b) (k : Fr (fun j => g.own j ≠ 0) b c) (o : OwnNew a.heap.size g) : Fr (fun _ => False) a c :=
  h.then k (fun j hj e => by have := o j e; omega)

/-- A memory's pointer. -/
abbrev ptr (b : Nat) : Value := .pointer (some ⟨b, 0, none⟩)

/-- What 'fixed' comes to, step by step. -/
def fx1 : Abs := pushX (newX 1)
def fx2 : Abs := { mkA fx1 1 with pss := fx1.pss ++ [fx1.made + 1] }
def fx3 : Abs := mkA fx2 2
def fx4 : Abs := { fx3 with cells := upd fx3.cells 2 (some [(0, 0), (2, 1)]) }
def fx5 : Abs := { fx4 with cells := gone fx4.cells [1], pss := [], frs := [] }

set_option maxRecDepth 100000 in
set_option maxHeartbeats 2000000 in
theorem fixed_any (w : World) : Calls Try.prog 9 #[] w fun e w' => e = .returned (.bool true) ∧ Fr (fun _ => False) w w' := by
  go_enter Try.func9, Try.ntmps9
  go_wp2_with fail
  refine (show Calls Try.prog 10 #[.int .i64 1] w _ from new_any 1 (by omega) w).mono ?_
  rintro e w1 ⟨b, g, rfl, hM, hF, hO⟩
  have hO1 : OwnNew w.heap.size g := hO
  have hs1 := hF.size
  go_wp2_with fail
  refine (push_any b g (newX 1) w1 hM (by simp [newX])).mono ?_
  rintro e w2 ⟨g2, rfl, hM2, hF2, hE2⟩
  have hG2 := hF.anew hF2 hO1
  have hO2 := hO1.ext hE2 hs1
  have hs2 := hG2.size
  clear hF hF2 hM hO hE2 hO1
  go_wp2_with fail
  refine (show Calls Try.prog 12 #[ptr b, .int .i64 1, .bool false] w2 _ from make_frame b g2 fx1 1 w2 hM2 (by omega) (by omega) (by simp [fx1, pushX]) (by simp [fx1, pushX, newX]) (by simp [fx1, pushX, newX]) (by simp [fx1, pushX, newX])).mono ?_
  rintro e w3 ⟨g3, he, hM3, hF3, hE3⟩
  obtain rfl : e = .returned (.tuple #[.int .i64 1, .int .i64 0]) := he
  have hM3 : Mem w3 b g3 fx2 := hM3
  have hG3 := hG2.anew hF3 hO2
  have hO3 := hO2.ext hE3 hs2
  have hs3 := hG3.size
  clear hG2 hF3 hM2 hE3 hO2
  go_wp2_with fail
  refine (show Calls Try.prog 12 #[ptr b, .int .i64 2, .bool true] w3 _ from make_heap b g3 fx2 2 w3 hM3 (by omega) (by omega) (by simp [fx2, mkA, fx1, pushX]) (by simp [fx2, mkA, fx1, pushX, newX]) (by simp [fx2, mkA, fx1, pushX, newX])).mono ?_
  rintro e w4 ⟨g4, he, hM4, hF4, hE4⟩
  obtain rfl : e = .returned (.tuple #[.int .i64 2, .int .i64 0]) := he
  have hM4 : Mem w4 b g4 fx3 := hM4
  have hG4 := hG3.anew hF4 hO3
  have hO4 := hO3.ext hE4 hs3
  have hs4 := hG4.size
  clear hG3 hF4 hM3 hE4 hO3
  go_wp2_with fail
  refine (show Calls Try.prog 14 #[ptr b, .agg #[.int .i64 2, .int .i64 2], .int .i64 1, .agg #[.int .i64 2, .int .i64 1]] w4 _ from store_any b g4 fx3 (2, 2) 1 (2, 1) w4 hM4 (by simp [fx3, fx2, mkA, fx1, pushX, newX])).mono ?_
  rintro e w5 ⟨he, hM5, hF5⟩
  have hst : storeX fx3 (2, 2) 1 (2, 1) = (fx4, 0) := by rfl
  rw [hst] at he hM5
  subst he
  have hG5 := hG4.anew hF5 hO4
  have hs5 := hG5.size
  clear hG4 hF5 hM4 hst
  go_wp2_with fail
  refine (show Calls Try.prog 16 #[ptr b, .agg #[.int .i64 2, .int .i64 2], .int .i64 1] w5 _ from load_any b g4 fx4 (2, 2) 1 w5 hM5 (by simp [fx4, fx3, fx2, mkA, fx1, pushX, newX])).mono ?_
  rintro e w6 ⟨he, hF6⟩
  have hld : loadX fx4 (2, 2) 1 = ((2, 1), 0) := by rfl
  rw [hld] at he
  subst he
  have hM6 := hM5.keep hF6
  have hG6 := hG5.trans hF6
  have hs6 := hG6.size
  clear hM5 hF6 hG5 hld
  go_wp2_with fail
  have V7 := heap_alloc_last w6 (.cells #[.int .i64 2, .int .i64 1] 32)
  have hF7 : Fr (fun _ => False) w6 (w6.alloc (.cells #[.int .i64 2, .int .i64 1] 32)) := Fr.alloc (Fr.refl _ w6) _
  have hv0 : g4.own w6.heap.size = 0 := by
    by_cases h0 : g4.own w6.heap.size = 0
    · exact h0
    · have := hM6.olt _ h0; omega
  generalize w6.alloc (.cells #[.int .i64 2, .int .i64 1] 32) = w7 at *
  have hM7 := hM6.keep hF7
  have hG7 := hG6.trans hF7
  have hs7 := hG7.size
  clear hM6 hF7 hG6
  refine (pop_any b g4 fx4 w7 hM7 (by simp [fx4, fx3, fx2, mkA, fx1, pushX]) (by simp [fx4, fx3, fx2, mkA, fx1, pushX, newX]) (by simp [fx4, fx3, fx2, mkA, fx1, pushX, newX]) (by simp [fx4, fx3, fx2, mkA, fx1, pushX, newX])).mono ?_
  rintro e w8 ⟨rfl, g8, a8, hP8, hM8, hF8, hE8⟩
  have ha8 : a8 = fx5 := hP8.is (l := []) (num := 0) (k := 0) rfl (isCut_zero (by simp [fx4, fx3, fx2, mkA, fx1, pushX, newX]))
  subst ha8
  have V8 := (hF8.block _ (heap_lt V7) (fun e => e hv0)).trans V7
  have hG8 := hG7.anew hF8 hO4
  have c0 : w8.cell? ⟨w6.heap.size, 0, none⟩ = some (.int .i64 2) := by rw [cell_of V8]; rfl
  have c1 : w8.cell? ⟨w6.heap.size, 1, none⟩ = some (.int .i64 1) := by rw [cell_of V8]; rfl
  have hs8 := hG8.size
  clear hP8 hM7 hF8 hG7 V7
  go_wp2_with fail
  refine (show Calls Try.prog 16 #[ptr b, .agg #[.int .i64 2, .int .i64 1], .int .i64 0] w8 _ from load_any b g8 fx5 (2, 1) 0 w8 hM8 (by simp [fx5, fx4, fx3, fx2, mkA, fx1, pushX, newX])).mono ?_
  rintro e w9 ⟨he, hF9⟩
  have hld : loadX fx5 (2, 1) 0 = ((0, 0), 32) := by rfl
  rw [hld] at he
  subst he
  have hG9 := hG8.trans hF9
  have V9 := (hF9.block _ (heap_lt V8) (fun e => e)).trans V8
  have hlt9 : w6.heap.size < w9.heap.size := heap_lt V9
  have d0 : w9.cell? ⟨w6.heap.size, 0, none⟩ = some (.int .i64 2) := by rw [cell_of V9]; rfl
  have d1 : w9.cell? ⟨w6.heap.size, 1, none⟩ = some (.int .i64 1) := by rw [cell_of V9]; rfl
  clear hM8 hF9 hG8 hld c0 c1 V8 V9
  go_wp2_with fail
  go_ret
  exact ⟨rfl, Fr.alloc hG9 _⟩
end Go.Proofs.Ytmdlebolmhnhaaa
