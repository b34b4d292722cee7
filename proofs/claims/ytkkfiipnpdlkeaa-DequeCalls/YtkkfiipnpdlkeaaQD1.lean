import Derived.Test.YtkkfiipnpdlkeaaQC2
import Derived.Deep.AppendSrc
namespace Go.Proofs.Ytkkfiipnpdlkeaa
open Go.RowKit (wrap32 wrap64)
open Go.MuLone
set_option linter.unusedVariables false
set_option linter.unusedSimpArgs false

/-- A slice of numbers that lies in a row of the call's own, anywhere in it. -/
def Wn (w : World) (B : Nat) (v : Value) (xs : List Int) : Prop :=
  (v = .slice none 0 0 ∧ xs = []) ∨ ∃ g o cap cur, v = .slice (some ⟨g, o, none⟩) xs.length cap ∧ B ≤ g ∧ w.heap[g]? = some (.cells cur 3) ∧ o + cap ≤ cur.size ∧ xs.length ≤ cap ∧ ∀ j (h : j < xs.length), cur[o + j]? = some (vI xs[j])
theorem Wn.nil (w : World) (B : Nat) : Wn w B (.slice none 0 0) [] := Or.inl ⟨rfl, rfl⟩
theorem Wn.fr {S : Nat → Prop} {w w' : World} {B : Nat} {v : Value} {xs : List Int} (h : Wn w B v xs) (f : Fr S w w') (hS : ∀ g, v.ownBlock = some g → ¬ S g) : Wn w' B v xs := by
  rcases h with h | ⟨g, o, cap, cur, rfl, hB, hg, h1, h2, h3⟩
  · exact Or.inl h
  · exact Or.inr ⟨g, o, cap, cur, rfl, hB, (f.block g (heap_lt hg) (hS g rfl)).trans hg, h1, h2, h3⟩
theorem Wn.lt {w : World} {B : Nat} {v : Value} {xs : List Int} (h : Wn w B v xs) (g : Nat) (e : v.ownBlock = some g) : B ≤ g ∧ g < w.heap.size := by
  rcases h with ⟨rfl, -⟩ | ⟨g', o, cap, cur, rfl, hB, hg, -⟩
  · cases e
  · injection e with e
    subst e
    exact ⟨hB, heap_lt hg⟩
theorem Wn.ints {w : World} {B : Nat} {v : Value} {xs : List Int} (h : Wn w B v xs) : IntsAt w w.heap.size v xs := by
  rcases h with ⟨rfl, rfl⟩ | ⟨g, o, cap, cur, rfl, hB, hg, h1, h2, h3⟩
  · exact ⟨none, 0, rfl, fun h => absurd rfl h⟩
  · exact ⟨_, cap, rfl, fun _ => ⟨g, o, rfl, heap_lt hg, fun j hj => by rw [cell_of hg]; exact h3 j hj⟩⟩
theorem Wn.len {w : World} {B : Nat} {v : Value} {xs : List Int} (h : Wn w B v xs) : ∃ a cap, v = .slice a xs.length cap ∧ xs.length ≤ cap := by
  rcases h with ⟨rfl, rfl⟩ | ⟨g, o, cap, cur, rfl, hB, hg, h1, h2, h3⟩
  · exact ⟨none, 0, rfl, Nat.le_refl _⟩
  · exact ⟨_, cap, rfl, h2⟩

theorem info3 : ∃ i, Try.prog.info? 3 = some i ∧ i.zero = some (vI 0) ∧ i.size = 1 ∧ i.bytes = 8 := by
  have h : (Try.prog.info? 3).map (fun i => (i.zero, i.size, i.bytes)) = some (some (vI 0), 1, 8) := by kernel_rfl
  cases hi : Try.prog.info? 3 with
  | none => rw [hi] at h; cases h
  | some i =>
    rw [hi] at h
    simp only [Option.map_some, Option.some.injEq, Prod.mk.injEq] at h
    exact ⟨i, rfl, h.1, h.2.1, h.2.2⟩

/-- append(v, x), x in a new block. -/
theorem Wn.append {w : World} {B : Nat} {v : Value} {xs : List Int} (h : Wn w B v xs) (hB : B ≤ w.heap.size) (x : Int) (ty : TypeId) (hl : xs.length ≤ 17592186044416) :
    ∃ v' w', (Builtin.append_ #[30, 30] ty #[v, .slice (some ⟨w.heap.size, 0, none⟩) 1 1]).run Try.prog (w.alloc (.cells #[vI x] 3)) = .ok v' w' ∧
      Wn w' B v' (xs ++ [x]) ∧ Fr (fun j => v.ownBlock = some j) w w' ∧ ∀ g, v'.ownBlock = some g → v.ownBlock = some g ∨ w.heap.size ≤ g := by
  obtain ⟨i, hi, hz, hs, hb⟩ := info3
  have hsrc : Src Try.prog i.size 30 (.slice (some ⟨w.heap.size, 0, none⟩) 1 1) 1 [vI x] (w.alloc (.cells #[vI x] 3)) := by
    refine Src.ofSlice _ under30 _ 1 1 [vI x] (by rw [hs]; rfl) ?_ (by intro u hu; rw [List.mem_singleton.1 hu]; rfl)
    intro j u hj
    cases j with
    | zero =>
      rw [addr_add, cell_of (heap_alloc_last w _)]
      simpa using hj
    | succ j => simp at hj
  have f0 : Fr (fun j => v.ownBlock = some j) w (w.alloc (.cells #[vI x] 3)) := (Fr.refl _ w).alloc _
  -- a new row
  have new : ∀ (base : Option Addr) (cap : Nat), cap = xs.length → v = .slice base xs.length cap →
      (Builtin.firstCells i.size xs.length (.slice base xs.length cap)).run Try.prog (w.alloc (.cells #[vI x] 3)).drew = .ok (xs.map vI).toArray (w.alloc (.cells #[vI x] 3)).drew →
      ∃ v' w', (Builtin.append_ #[30, 30] ty #[v, .slice (some ⟨w.heap.size, 0, none⟩) 1 1]).run Try.prog (w.alloc (.cells #[vI x] 3)) = .ok v' w' ∧
      Wn w' B v' (xs ++ [x]) ∧ Fr (fun j => v.ownBlock = some j) w w' ∧ ∀ g, v'.ownBlock = some g → v.ownBlock = some g ∨ w.heap.size ≤ g := by
    rintro base cap hcap rfl hold
    have hr := run_append_grow_src (P := Try.prog) (w.alloc (.cells #[vI x] 3)) 30 30 ty 3 i (vI 0) under30 hi hz base xs.length cap (xs.map vI) hold _ 1 [vI x] hsrc (by omega) (by omega) (by rw [hb, hcap]; exact growslice_fits_succ (by omega) (by omega))
    refine ⟨_, _, hr, ?_, ?_, ?_⟩
    · have hge := grownCap_ge (w.alloc (.cells #[vI x] 3)) (xs.length + 1) cap 3
      refine Or.inr ⟨_, 0, _, _, by rw [List.length_append]; rfl, ?_, heap_alloc_last _ _, ?_, ?_, ?_⟩
      · simp; omega
      · simp only [Array.size_append, List.size_toArray, List.length_append, List.length_map, List.length_singleton, size_zeroCells]
        show 0 + _ ≤ _ + _ * 1
        omega
      · simpa using hge
      · intro j hj
        rw [Array.getElem?_append_left (by simp at hj ⊢; omega), Nat.zero_add, List.getElem?_toArray]
        by_cases hlt : j < xs.length
        · rw [List.getElem?_append_left (by simpa using hlt)]
          simp [hlt]
        · have : j = xs.length := by simp at hj; omega
          subst this
          simp
    · exact (f0.drew).alloc _
    · intro g hg
      right
      injection hg with hg
      rw [← hg]
      simp
  rcases h with ⟨rfl, rfl⟩ | ⟨g, o, cap, cur, rfl, hBg, hg, h1, h2, h3⟩
  · exact new none 0 rfl rfl (run_firstCells_none _ _ _ _ _)
  · have hgl := heap_lt hg
    have hg1 : (w.alloc (.cells #[vI x] 3)).heap[g]? = some (.cells cur 3) := (Go.RowKit.Below.heap_alloc w _ g hgl).trans hg
    rcases Nat.lt_or_ge xs.length cap with hc | hc
    · have hr := run_append_room_src (P := Try.prog) (w.alloc (.cells #[vI x] 3)) 30 30 ty 3 i under30 hi g o xs.length cap _ 1 [vI x] hsrc (by omega)
        (by intro j hj; simp at hj; subst hj; rw [hs, cell_of hg1]; simp; omega) (by intro j hj; exact frozen_of hg1 _)
      rw [hs, Nat.mul_one] at hr
      refine ⟨_, _, hr, ?_, ?_, ?_⟩
      · refine Or.inr ⟨g, o, cap, _, by rw [List.length_append]; rfl, hBg, set_of hg1 _ _, by simpa using h1, by simp; omega, ?_⟩
        intro j hj
        rw [Array.getElem?_setIfInBounds]
        by_cases hlt : j < xs.length
        · rw [if_neg (by omega), h3 j hlt, List.getElem_append_left hlt]
        · have : j = xs.length := by simp at hj; omega
          subst this
          rw [if_pos rfl, if_pos (by omega)]
          simp
      · exact f0.setCell ⟨g, _, none⟩ _ (Or.inl rfl)
      · intro g' hg'
        exact Or.inl hg'
    · refine new _ cap (by omega) rfl ?_
      rw [show cap = xs.length by omega]
      refine run_firstCells_some _ i.size xs.length ⟨g, o, none⟩ xs.length xs.length (xs.map vI) (by rw [hs]; simp) ?_
      intro j u hj
      rw [List.getElem?_map, Option.map_eq_some_iff] at hj
      obtain ⟨y, hy, rfl⟩ := hj
      obtain ⟨hjl, rfl⟩ := List.getElem?_eq_some_iff.1 hy
      rw [addr_off]
      show (w.alloc (.cells #[vI x] 3)).cell? ⟨g, o + j, none⟩ = _
      rw [cell_of hg1]
      exact h3 j hjl
end Go.Proofs.Ytkkfiipnpdlkeaa
