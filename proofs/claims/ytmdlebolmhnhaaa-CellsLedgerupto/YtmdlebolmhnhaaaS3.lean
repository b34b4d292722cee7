import Derived.Test.YtmdlebolmhnhaaaS2
namespace Go.Proofs.Ytmdlebolmhnhaaa
open Go.RowKit (wrap32 wrap64)
open Go.Maps (Keyed)
set_option linter.unusedVariables false
set_option linter.unusedSimpArgs false

/-- The numbers of the cells that are there, rising. -/
def liveN (a : Abs) : List Nat := (List.range (a.made + 1)).filter fun i => (a.cells i).isSome
def liveX (a : Abs) : List Int := (liveN a).map fun i : Nat => (i : Int)

theorem liveX_sorted (a : Abs) : (liveX a).Pairwise (fun x y => decide (x ≤ y) = true) := by
  unfold liveX liveN
  refine List.pairwise_map.2 ((List.pairwise_lt_range.filter _).imp ?_)
  intro x y h
  simp only [decide_eq_true_eq]
  omega

theorem liveX_nodup (a : Abs) : (liveX a).Nodup := by
  unfold liveX liveN
  refine List.pairwise_map.2 ((List.pairwise_lt_range.filter _).imp ?_)
  intro x y h
  omega

theorem live_perm {w : World} {b : Nat} {g : Gh} {a : Abs} (h : Mem w b g a) : (liveX a).Perm (intKeys g.D) := by
  refine CollectedI.perm (left := fun _ => false) ⟨liveX_nodup a, fun x => ?_⟩ h.map keyed3 under3 (fun _ => rfl)
  unfold liveX liveN
  simp only [List.mem_map, List.mem_filter, List.mem_range]
  constructor
  · rintro ⟨i, ⟨h1, h2⟩, rfl⟩
    exact ⟨(h.has i).trans h2, trivial⟩
  · rintro ⟨hx, -⟩
    obtain ⟨i, rfl⟩ := Int.eq_ofNat_of_zero_le (h.pos x hx)
    have hs : (a.cells i).isSome = true := (h.has i).symm.trans hx
    obtain ⟨l, hl⟩ := Option.isSome_iff_exists.1 hs
    obtain ⟨-, -, -, h4, -⟩ := h.cell i l hl
    exact ⟨i, ⟨by omega, hs⟩, rfl⟩

theorem live_sort {w : World} {b : Nat} {g : Gh} {a : Abs} (h : Mem w b g a) {ss : List Int} (hp : ss.Perm (intKeys g.D)) : ss.mergeSort (fun x y => decide (x ≤ y)) = liveX a := by
  rw [mergeSort_of_perm_i (hp.trans (live_perm h).symm)]
  exact List.mergeSort_of_pairwise (liveX_sorted a)

set_option maxRecDepth 100000 in
set_option maxHeartbeats 1000000 in
/-- Live. -/
theorem live_any (b : Nat) (g : Gh) (a : Abs) (w : World) (h : Mem w b g a) (hm : a.made ≤ 10000000000000) :
    Calls Try.prog 19 #[ptr b] w fun e w' => ∃ v, e = .returned v ∧ w'.ownsRow w.heap.size 3 1 v (liveX a).length ((liveX a).map vI) ∧ Fr (fun _ => False) w w' := by
  have f2 := h.facts.2.2.1
  have hsz : Maps.size g.D ≤ 10000000000000 := Nat.le_trans h.map.size_le hm
  have H : Hd _ := h
  clear h
  go_enter Try.func19, Try.ntmps19
  go_wp2_with fail
  refine (keys_any (some g.tb) w).mono ?_
  rintro e w1 ⟨rfl, hw1⟩
  have A1 : w1.heap[w.heap.size]? = some (.cells #[.map (some g.tb)] 61) := by rw [hw1]; exact heap_alloc_last w _
  have hF1 : Fr (fun _ => False) w w1 := by rw [hw1]; exact Fr.alloc (Fr.refl _ w) _
  have hM1 := H.out.keep hF1
  clear hw1
  go_wp2_with fail
  refine (sorted_any w.heap.size g.tb a.made g.D Rc w1 (by rw [cell_of A1]; rfl) (heap_lt A1) hM1.map hsz).mono ?_
  rintro e w2 ⟨v, ss, rfl, hp, hrow, hnil, hbel⟩
  have hs := live_sort H.out hp
  have hl : ss.length = (liveX a).length := by rw [← hs, List.length_mergeSort]
  rw [hs, hl] at hrow
  go_wp2_with fail
  go_ret
  have hF2 : Fr (fun _ => False) w1 w2 := ⟨hbel.os, hbel.tape, hbel.output, hbel.size, fun k hk _ => hbel.block k hk⟩
  refine ⟨v, rfl, ?_, hF1.trans hF2⟩
  refine ⟨hrow.1, ?_⟩
  rcases hrow.2 with h2 | ⟨g7, cap, cur, e, h3, h4⟩
  · exact Or.inl h2
  · exact Or.inr ⟨g7, cap, cur, e, Nat.le_trans hF1.size h3, h4⟩

end Go.Proofs.Ytmdlebolmhnhaaa
