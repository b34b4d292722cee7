import Derived.Test.YtmdlebolmhnhaaaE5
import Derived.Test.YtmdlebolmhnhaaaD6
namespace Go.Proofs.Ytmdlebolmhnhaaa
open Go.ChangeShapes Go.WideShapes Go.ChangeAt Go.RowKit
set_option linter.unusedVariables false
set_option linter.unusedSimpArgs false

theorem bytes3 : Try.prog.bytesOf 3 = 8 := by kernel_rfl

theorem weightsAll_mem {H : Type} {P : Program} {e : TypeId} {d : DataW H} {n : Nat} (hn : n ∈ d.weights P e) : ∀ {ds : List (DataW H)}, d ∈ ds → n ∈ DataW.weightsAll P e ds
  | d0 :: ds, h => by
    simp only [DataW.weightsAll, List.mem_append]
    rcases List.mem_cons.1 h with rfl | h
    · exact Or.inl hn
    · exact Or.inr (weightsAll_mem hn h)

/-- Numbers that came in, among cells. -/
theorem intsAt_of {H : Type} {enc : TypeId × Value → H} {W : World} {n : Nat} {c : Value} {x : DataW H × List MemPlace} (h : DataW.trod enc Try.prog W 0 (fun _ => true) true n 39 [c] = some x) :
    ∃ a zs cap, c = .slice a (zs : List Int).length cap ∧ IntsAt W.heap.size W c zs ∧ (zs = [] ∨ ∃ q ∈ x.1.weights Try.prog 39, zs.length * 8 ≤ q) := by
  rcases Deep.open_slice1 under39 cells3 h with ⟨hcs, hx⟩ | ⟨a, len, cap, m, k, V, D, Pl, hcs, -, hl, -, hmm, hx, hV⟩
  · have hcs := (List.cons.inj hcs).1
    subst hcs
    exact ⟨none, [], 0, rfl, Or.inl ⟨none, 0, rfl, rfl⟩, Or.inl rfl⟩
  · have hcs := (List.cons.inj hcs).1
    subst hcs
    have hmc : m = cap := by simpa using hmm
    subst hmc
    have hz : ∀ i, i < m → V i = vI (RowKit.intOf (V i)) := fun i hi => by
      obtain ⟨z, hz⟩ := ints_of (hV i hi).2
      have hz := (List.cons.inj hz).1
      rw [hz]
      rfl
    have hlen : ((List.range len).map fun i => RowKit.intOf (V i)).length = len := by simp
    refine ⟨some a, (List.range len).map fun i => RowKit.intOf (V i), m, by rw [hlen], ?_, ?_⟩
    · rcases Nat.eq_zero_or_pos len with h0 | hpos
      · subst h0
        exact Or.inl ⟨_, _, rfl, rfl⟩
      · obtain ⟨b, off, spot⟩ := a
        have hspot : spot = none := by
          have := World.cell?_spot (hV 0 (by omega)).1
          simpa [Addr.add] using this
        subst hspot
        have h0 := (hV 0 (by omega)).1
        rw [addr_off] at h0
        refine Or.inr ⟨b, off, m, by rw [hlen], cell_lt h0, fun j hj => ?_⟩
        have hj' : j < len := by simpa using hj
        have h1 := (hV j (by omega)).1
        rw [addr_off, hz j (by omega)] at h1
        rw [h1]
        simp [List.getElem?_map, List.getElem?_range hj']
    · refine Or.inr ⟨(len + (m - len)) * 8, ?_, by rw [hlen]; omega⟩
      rw [hx]
      simp only [DataW.weights, under39, bytes3, List.length_map, List.length_range]
      exact List.mem_cons_self

end Go.Proofs.Ytmdlebolmhnhaaa
