import Derived.Test.YtingenonbkencaaDoorQW7J
namespace Go.Proofs.YtingenonbkencaaDoor
open Go.RowKit (wrap32 wrap64)
set_option linter.unusedVariables false
set_option linter.unusedSimpArgs false
theorem take_map_succ (bs : List UInt8) (k : Nat) (h : k < bs.length) : (bs.take (k + 1)).map u8v = (bs.take k).map u8v ++ [u8v bs[k]] := by
  rw [List.take_add_one, List.getElem?_eq_getElem h, List.map_append]; rfl
theorem BytesIn.grow {w w' : World} {v : Value} {bs : List UInt8} (h : BytesIn w v bs) (f : Fr (fun _ => False) w w') : BytesIn w' v bs := by
  obtain ⟨h1, a, c, h2, h3, h4⟩ := h
  refine ⟨h1, a, c, h2, h3, fun hne => ?_⟩
  obtain ⟨k, o, e, hk, hc⟩ := h4 hne
  exact ⟨k, o, e, Nat.lt_of_lt_of_le hk f.size, fun i hi => (f.cell hk (fun h => h)).trans (hc i hi)⟩
theorem BytesIn.cut {w : World} {a : Option Addr} {n c : Nat} {bs : List UInt8} (h : BytesIn w (.slice a n c) bs) (k : Nat) (hk : k ≤ bs.length) : BytesIn w (.slice a k c) (bs.take k) := by
  obtain ⟨h1, a', c', h2, h3, h4⟩ := h
  cases h2
  have hl : (bs.take k).length = k := by rw [List.length_take]; omega
  refine ⟨by omega, a, c, by rw [hl], by omega, fun hne => ?_⟩
  obtain ⟨g, o, e, hg, hc⟩ := h4 (by intro e; apply hne; rw [e]; simp)
  exact ⟨g, o, e, hg, fun i hi => by rw [hc i (by omega)]; simp⟩
theorem owns_handed {w : World} {base : Nat} {rv : Value} {bs : List UInt8} (h : w.ownsRow base 5 1 rv bs.length (bs.map u8v)) (hl : bs.length ≤ 1000000000000000) (hnil : bs = [] → rv = .slice none 0 0) : Handed w rv bs := by
  refine ⟨hl, ?_⟩
  rcases h.2 with ⟨e, e0⟩ | ⟨g, cap, cur, e, h1, h2, h3, h4, h5, h6⟩
  · exact Or.inl ⟨List.length_eq_zero_iff.1 e0, e⟩
  · by_cases hne : bs = []
    · exact Or.inl ⟨hne, hnil hne⟩
    · refine Or.inr ⟨hne, g, 0, cap, e, h3, (Array.getElem?_eq_some_iff.1 h2).1, fun i hi => ?_⟩
      have := World.ownsRow.cells h (g := g) (by rw [e]; rfl) i (u8v bs[i]) (by simp [hi])
      rw [addr_add] at this
      rw [Nat.zero_add]
      exact this
end Go.Proofs.YtingenonbkencaaDoor
