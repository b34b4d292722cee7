import Derived.Test.YtgcekpmkniipfaaQA6
namespace Go.Proofs.Ytgcekpmkniipfaa
open Go.RowKit (wrap32 wrap64)
open Go.MuLone
open Go.Maps (Keyed)
set_option linter.unusedVariables false
set_option linter.unusedSimpArgs false

/-- A table's cells when k of its maps are made. -/
def tabC (b k : Nat) : Array Value := ((List.range 24).map fun j => if j % 3 = 0 then Value.int .i32 0 else if j % 3 = 1 then .int .u32 0 else if j / 3 < k then .map (some (b + 1 + j / 3)) else .map none).toArray
theorem tabC_zero (b : Nat) : tabC b 0 = #[.int .i32 0, .int .u32 0, .map none, .int .i32 0, .int .u32 0, .map none, .int .i32 0, .int .u32 0, .map none, .int .i32 0, .int .u32 0, .map none, .int .i32 0, .int .u32 0, .map none, .int .i32 0, .int .u32 0, .map none, .int .i32 0, .int .u32 0, .map none, .int .i32 0, .int .u32 0, .map none] := rfl
theorem tabC_at (b k j : Nat) (hj : j < 24) : (tabC b k)[j]? = some (if j % 3 = 0 then Value.int .i32 0 else if j % 3 = 1 then .int .u32 0 else if j / 3 < k then .map (some (b + 1 + j / 3)) else .map none) := by
  unfold tabC
  rw [List.getElem?_toArray, List.getElem?_map, List.getElem?_range hj]
  rfl
theorem tabC_size (b k : Nat) : (tabC b k).size = 24 := by simp [tabC]
theorem tabC_step (b k : Nat) (hk : k < 8) : (tabC b k).setIfInBounds (k * 3 + 2) (.map (some (b + 1 + k))) = tabC b (k + 1) := by
  apply Array.ext_getElem?
  intro j
  rw [Array.getElem?_setIfInBounds]
  by_cases hj : j < 24
  · rw [tabC_at b (k + 1) j hj, tabC_at b k j hj, tabC_size]
    by_cases e : k * 3 + 2 = j
    · rw [if_pos e, if_pos (by omega), if_neg (by omega), if_neg (by omega), if_pos (by omega)]
      congr 4
      omega
    · rw [if_neg e]
      by_cases h0 : j % 3 = 0
      · rw [if_pos h0, if_pos h0]
      · rw [if_neg h0, if_neg h0]
        by_cases h1 : j % 3 = 1
        · rw [if_pos h1, if_pos h1]
        · rw [if_neg h1, if_neg h1]
          by_cases h2 : j / 3 < k
          · rw [if_pos h2, if_pos (by omega)]
          · rw [if_neg h2, if_neg (by omega)]
  · have n1 : (tabC b (k + 1))[j]? = none := Array.getElem?_eq_none (by rw [tabC_size]; omega)
    have n2 : (tabC b k)[j]? = none := Array.getElem?_eq_none (by rw [tabC_size]; omega)
    rw [n1, n2, tabC_size, if_neg (by omega)]

def gh0 (b : Nat) : Gh where
  own := fun j => if j = b then 1 else if b + 1 ≤ j ∧ j < b + 9 then 2 + (j - b - 1) else 0
  mb := fun i => b + 1 + i
  D := fun _ => .map []
  eb := fun _ => 0

/-- A table in the making: k of its maps are there. -/
structure Mk (w : World) (k : Nat) (wr : World) : Prop where
  fr : Fr (fun _ => False) w wr
  size : wr.heap.size = w.heap.size + 1 + k
  tab : wr.heap[w.heap.size]? = some (.cells (tabC w.heap.size k) 82)
  maps : ∀ i, i < k → wr.heap[w.heap.size + 1 + i]? = some (.map #[] 0)

theorem Mk.cell {w wr : World} {k : Nat} (h : Mk w k wr) (hk : k < 8) : (wr.alloc (.map #[] 0)).cell? ⟨w.heap.size, k * 3 + 2, none⟩ = some (.map none) ∧ (wr.alloc (.map #[] 0)).frozen? ⟨w.heap.size, k * 3 + 2, none⟩ = false := by
  have h1 : (wr.alloc (.map #[] 0)).heap[w.heap.size]? = some (.cells (tabC w.heap.size k) 82) := by
    rw [Go.RowKit.Below.heap_alloc wr _ _ (by have := h.size; omega)]; exact h.tab
  refine ⟨?_, frozen_of h1 _⟩
  rw [cell_of h1, tabC_at _ _ _ (by omega), if_neg (by omega), if_neg (by omega), if_neg (by omega)]

theorem Mk.step {w wr : World} {k : Nat} (h : Mk w k wr) (hk : k < 8) : Mk w (k + 1) ((wr.alloc (.map #[] 0)).setCell ⟨w.heap.size, k * 3 + 2, none⟩ (.map (some wr.heap.size))) where
  fr := (h.fr.alloc _).setCell _ _ (Or.inr (Nat.le_refl _))
  size := by simp; have := h.size; omega
  tab := by
    have h1 : (wr.alloc (.map #[] 0)).heap[w.heap.size]? = some (.cells (tabC w.heap.size k) 82) := by
      rw [Go.RowKit.Below.heap_alloc wr _ _ (by have := h.size; omega)]; exact h.tab
    rw [set_of h1, h.size, tabC_step _ _ hk]
  maps := fun i hi => by
    rw [Go.RowKit.Below.heap_setCell _ _ _ _ (by show w.heap.size + 1 + i ≠ w.heap.size; omega)]
    by_cases e : i < k
    · rw [Go.RowKit.Below.heap_alloc wr _ _ (by have := h.size; omega)]; exact h.maps i e
    · have : w.heap.size + 1 + i = wr.heap.size := by have := h.size; omega
      rw [this]; exact heap_alloc_last wr _

theorem Mk.done {w wr : World} (h : Mk w 8 wr) : Tb wr w.heap.size (gh0 w.heap.size) 0 (fun _ => none) where
  lock := fun i hi => by rw [cell_of h.tab, tabC_at _ _ _ (by omega), if_pos (by omega)]
  map := fun i hi => by
    rw [cell_of h.tab, tabC_at _ _ _ (by omega), if_neg (by omega), if_neg (by omega), if_pos (by omega)]
    show some (Value.map (some (w.heap.size + 1 + (3 * i + 2) / 3))) = some (.map (some (w.heap.size + 1 + i)))
    congr 4
    omega
  frz := fun o => frozen_of h.tab o
  own1 := by simp [gh0]
  own2 := fun i hi => by
    show (if w.heap.size + 1 + i = w.heap.size then 1 else if w.heap.size + 1 ≤ w.heap.size + 1 + i ∧ w.heap.size + 1 + i < w.heap.size + 9 then 2 + (w.heap.size + 1 + i - w.heap.size - 1) else 0) = 2 + i
    rw [if_neg (by omega), if_pos (by omega)]
    omega
  ownE := fun k v hk => by cases hk
  inj := fun k k' v v' hk => by cases hk
  lt := fun j hj => by
    have hs := h.size
    have hj' : (if j = w.heap.size then 1 else if w.heap.size + 1 ≤ j ∧ j < w.heap.size + 9 then 2 + (j - w.heap.size - 1) else 0) ≠ 0 := hj
    by_cases e : j = w.heap.size
    · omega
    · rw [if_neg e] at hj'
      by_cases e2 : w.heap.size + 1 ≤ j ∧ j < w.heap.size + 9
      · omega
      · rw [if_neg e2] at hj'; exact absurd rfl hj'
  maps := fun i hi => by
    have h1 := h.maps i hi
    have h2 := World.ownsMap_made (H := Unit) (w := w) Try.prog 3 Rp
    obtain ⟨es, clock, hb, F, hs, hD⟩ := h2
    rw [heap_alloc_last] at hb
    cases hb
    exact ⟨_, _, h1, F, hs, hD⟩
  wf := fun k v hk => by cases hk
  has := fun i k _ _ => by show Maps.has (.map []) _ = _; simp [Maps.has]
  atk := fun k v hk => by cases hk
  ent := fun k v hk => by cases hk

theorem gh0_old (b j : Nat) (hj : j < b) : (gh0 b).own j = 0 := by
  show (if j = b then 1 else if b + 1 ≤ j ∧ j < b + 9 then 2 + (j - b - 1) else 0) = 0
  rw [if_neg (by omega), if_neg (by omega)]

set_option maxRecDepth 100000 in
set_option maxHeartbeats 4000000 in
theorem new_any (w : World) : Calls Try.prog 10 #[] w fun e w' => e = .returned (.pointer (some ⟨w.heap.size, 0, none⟩)) ∧ Tb w' w.heap.size (gh0 w.heap.size) 0 (fun _ => none) ∧ Fr (fun _ => False) w w' := by
  have hmm := @Go.RowKit.run_makeMap Try.prog
  have h0 : Hd (Mk w 0 (w.alloc (.cells (tabC w.heap.size 0) 82))) := ⟨(Fr.refl _ w).alloc _, by simp, heap_alloc_last w _, fun i hi => by omega⟩
  rw [tabC_zero] at h0
  go_enter Try.func10, Try.ntmps10
  go_wp2_with fail
  go_loopw [5] (fun v wr => ∃ k : Nat, v = .int .i64 k ∧ k ≤ 8 ∧ Hd (Mk w k wr)) (fun v _ => match v with | .int _ q => 8 - q.toNat | _ => 0)
  case atStart => exact ⟨0, rfl, by omega, h0⟩
  case round =>
    obtain ⟨k, rfl, hk, HM⟩ := hrel
    by_cases hlt : k < 8
    · obtain ⟨c0, z0⟩ := HM.out.cell hlt
      have hst : Hd (Mk w (k + 1) ((wr.alloc (.map #[] 0)).setCell ⟨w.heap.size, k * 3 + 2, none⟩ (.map (some wr.heap.size)))) := HM.out.step hlt
      have hk3 : (k : Int) < 8 := by omega
      have hk0 : (0 : Int) ≤ k := by omega
      clear HM hk
      go_wp2_with fail
      refine ⟨⟨k + 1, by simp, by omega, hst⟩, by simp; omega⟩
    · have hdk : decide ((k : Int) < 8) = false := by simp; omega
      have e8 : Hd (k = 8) := by show k = 8; omega
      clear hlt hk
      go_wp2_with fail
      go_ret
      obtain rfl := e8.out
      exact ⟨rfl, HM.out.done, HM.out.fr⟩
end Go.Proofs.Ytgcekpmkniipfaa
