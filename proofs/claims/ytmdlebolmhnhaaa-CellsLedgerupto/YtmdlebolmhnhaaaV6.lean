import Derived.Test.YtmdlebolmhnhaaaV5
namespace Go.Proofs.Ytmdlebolmhnhaaa
open Go.RowKit Go.Shelf Go.Sort
open Go.Maps (Keyed)
set_option linter.unusedVariables false
set_option linter.unusedSimpArgs false

theorem take_put (cur : Array Value) (ts : List Num) (k : Nat) (hk : k ≤ ts.length) (h : ts.length ≤ cur.size) : (putCells encN 0 ts.toArray cur).toList.take k = (ts.take k).map encN := by
  apply List.ext_getElem?
  intro j
  by_cases hj : j < k
  · rw [List.getElem?_take_of_lt hj, Array.getElem?_toList, List.getElem?_map, List.getElem?_take_of_lt hj]
    simp [putCells, show j < ts.length by omega, show j < cur.size by omega]
  · rw [List.getElem?_take_eq_none (by omega), List.getElem?_map, List.getElem?_take_eq_none (by omega)]; rfl

def forgetX (a : Abs) : Abs := if 2 * (liveN a).length < a.pss.length then { a with pss := a.pss.filter fun p => (a.cells p).isSome } else a

/-- The list of what passes is thinned out where it lies. -/
theorem Mem.thin {w w2 : World} {b : Nat} {g : Gh} {a : Abs} (h : Mem w b g a) {g7 n cap : Nat} (hv : g.ps = .slice (some ⟨g7, 0, none⟩) n cap) (l : List Nat) (ts : List Num) (hts : ts.length = a.pss.length) (hl : l.length ≤ a.pss.length) (hlt : (ts.take l.length).map encN = l.map fun p : Nat => vI p) {q : Nat}
    (hw : w2 = putRow encN (Sort.ahead w q) g7 0 ts.toArray) :
    Mem (w2.setCell ⟨b, 4, none⟩ (.slice (some ⟨g7, 0, none⟩) l.length cap)) b { g with ps := .slice (some ⟨g7, 0, none⟩) l.length cap } { a with pss := l } ∧ Fr (fun j => g.own j ≠ 0) w (w2.setCell ⟨b, 4, none⟩ (.slice (some ⟨g7, 0, none⟩) l.length cap)) ∧ w2.heap[b]? = w.heap[b]? := by
  have ho : g.own g7 = 5 := h.ops g7 (by rw [hv]; rfl)
  have hF1 : Fr (fun k => k = g7) w w2 := by
    have := sortWorld_fr encN w g7 0 q ts.toArray #[]
    rw [hw]
    simpa [sortWorld] using this
  have hF2 : Fr (fun j => j = b) w2 (w2.setCell ⟨b, 4, none⟩ (.slice (some ⟨g7, 0, none⟩) l.length cap)) := Fr.setCell (S := fun j => j = b) (Fr.refl _ w2) _ _ (Or.inl rfl)
  have nb : b ≠ g7 := ne_own h.ob ho (by omega)
  have hb2 : w2.heap[b]? = some (.cells (memC g a) 63) := by rw [hF1.block b h.lt nb]; exact h.blk0
  have keep : ∀ k p, k < w.heap.size → g.own k = p → p ≠ 1 → p ≠ 5 → (w2.setCell ⟨b, 4, none⟩ (.slice (some ⟨g7, 0, none⟩) l.length cap)).heap[k]? = w.heap[k]? := by
    intro k p hk hp p1 p5
    rw [hF2.block k (Nat.lt_of_lt_of_le hk hF1.size) (ne_own hp h.ob p1), hF1.block k hk (ne_own hp ho p5)]
  have HP : (w2.setCell ⟨b, 4, none⟩ (.slice (some ⟨g7, 0, none⟩) l.length cap)).ownsRow 0 3 1 (.slice (some ⟨g7, 0, none⟩) l.length cap) l.length (l.map fun n : Nat => vI n) := by
    refine ⟨by simp, ?_⟩
    rcases h.pss.2 with ⟨h2, -⟩ | ⟨g8, cap', cur, e, h3, h4, h5, h6, h7, h8⟩
    · rw [hv] at h2; cases h2
    · rw [hv] at e
      cases e
      refine Or.inr ⟨g7, cap, putCells encN 0 ts.toArray cur, rfl, Nat.zero_le _, ?_, by omega, h6, by simp [putCells, h7], ?_⟩
      · rw [hF2.block g7 (Nat.lt_of_lt_of_le (heap_lt h4) hF1.size) (fun e => nb e.symm), hw]
        simp [putRow, mapBlock, Sort.ahead, Array.getElem?_modify, h4, onCells]
      · rw [Nat.mul_one, take_put cur ts l.length (by omega) (by rw [h7]; omega), hlt]
  refine ⟨{ blk0 := ?_, glob := (keep g.gb 2 (heap_lt h.glob) h.og (by omega) (by omega)).trans h.glob, map := ?_, has := h.has, atk := h.atk, cell := ?_, frs := ?_, pss := HP, ob := h.ob, og := h.og, ot := h.ot, ofr := h.ofr, ops := ?_, olt := ?_, glen := h.glen, pos := h.pos }, ?_, hb2.trans h.blk0.symm⟩
  · rw [set_of hb2]; rfl
  · obtain ⟨es, clock, hb, Ft, hs, hD⟩ := h.map
    exact ⟨es, clock, (keep g.tb 3 (heap_lt hb) h.ot (by omega) (by omega)).trans hb, Ft, hs, hD⟩
  · intro j m hc
    obtain ⟨d1, d2, d3⟩ := h.cell j m hc
    exact ⟨(keep _ _ (heap_lt d1) d2 (by omega) (by omega)).trans d1, d2, d3⟩
  · refine ⟨h.frs.1, ?_⟩
    rcases h.frs.2 with h2 | ⟨k, cap', cur, e, h3, h4, h5⟩
    · exact Or.inl h2
    · exact Or.inr ⟨k, cap', cur, e, h3, (keep k 4 (heap_lt h4) (h.ofr k (by rw [e]; rfl)) (by omega) (by omega)).trans h4, h5⟩
  · intro j e
    cases e
    exact ho
  · intro k hk
    have := h.olt k hk
    have := hF1.size
    simp
    omega
  · exact (hF1.mono (fun k _ e => by subst e; rw [ho]; omega)).then hF2 (fun j _ e => by subst e; rw [h.ob]; omega)

end Go.Proofs.Ytmdlebolmhnhaaa
