import Derived.Test.YtmdlebolmhnhaabG3J
namespace Go.Proofs.Ytmdlebolmhnhaab
open Go.RowKit (wrap32 wrap64)
open Go.Maps (Keyed)
set_option linter.unusedVariables false
set_option linter.unusedSimpArgs false

/-- A row has another cell: of which block, and that the others stay. -/
theorem rne {g : RG} {j k p q : Nat} (h1 : g.own j = p) (h2 : g.own k = q) (h : p ≠ q) : j ≠ k := fun e => h (by rw [← h1, ← h2, e])

/-- A global is another. -/
theorem RMem.setGl {w : World} {b : Nat} {g : RG} {a : RA} (h : RMem w b g a) {gb n cap : Nat} (hgv : g.gv = .slice (some ⟨gb, 0, none⟩) n cap) {i : Nat} (hi : i < a.gl.length) (x : Val) :
    RMem (set2 w gb (i * 2) x) b g { a with gl := a.gl.set i x } ∧ Fr (fun j => g.own j ≠ 0) w (set2 w gb (i * 2) x) := by
  have f := set2_fr w gb (i * 2) x
  have ho : g.own gb = 2 := h.og gb (by rw [hgv]; rfl)
  have hrow := h.gls
  obtain ⟨ad, cap', e, -, -⟩ := row_shape hrow
  rw [hgv] at e
  cases e
  rw [hgv] at hrow
  have hrow' : (set2 w gb (i * 2) x).ownsRow 0 28 2 g.gv (a.gl.set i x).length (flat (a.gl.set i x)) := by
    rw [List.length_set, hgv]
    have := row_set (row_set hrow (i * 2) (vI x.1)) (i * 2 + 1) (vI x.2)
    rw [Nat.mul_comm i 2] at this ⊢
    rw [flat_set a.gl i x hi] at this
    exact this
  refine ⟨⟨?_, hrow', ?_, fun k u l e1 e2 => ?_, ?_, fun k u c e1 e2 => ?_, h.lfl, h.ob, h.og, h.of, h.oc, h.ofr, h.ofl, fun k hk => Nat.lt_of_lt_of_le (h.olt k hk) f.size⟩, f.mono (fun j _ e => by rw [e, ho]; decide)⟩
  · rw [f.block b (heap_lt h.blk) (rne h.ob ho (by omega))]; exact h.blk
  · exact ownsRow_fr h.frs f (fun j e => rne (h.of j e) ho (by omega))
  · exact ownsRow_fr (h.fro k u l e1 e2) f (fun j e => rne (h.ofr k u j e1 e) ho (by omega))
  · exact ownsRow_fr h.cls f (fun j e => rne (h.oc j e) ho (by omega))
  · exact ownsRow_fr (h.flo k u c e1 e2) f (fun j e => rne (h.ofl k u j e1 e) ho (by omega))

/-- A field is another. -/
theorem RMem.setFl {w : World} {b : Nat} {g : RG} {a : RA} (h : RMem w b g a) {i : Nat} {c : CellR} {fb n cap : Nat} (hu : g.fl[i]? = some (.slice (some ⟨fb, 0, none⟩) n cap)) (hc : a.cells[i]? = some c) {f : Nat} (hf : f < c.fields.length) (x : Val) :
    RMem (set2 w fb (f * 2) x) b g { a with cells := a.cells.set i { c with fields := c.fields.set f x } } ∧ Fr (fun j => g.own j ≠ 0) w (set2 w fb (f * 2) x) := by
  have fr := set2_fr w fb (f * 2) x
  have ho : g.own fb = 6 + 2 * i := h.ofl i _ fb hu rfl
  have hrow := h.flo i _ c hu hc
  obtain ⟨ad, cap', e, -, -⟩ := row_shape hrow
  cases e
  have hrow' : (set2 w fb (f * 2) x).ownsRow 0 28 2 (.slice (some ⟨fb, 0, none⟩) c.fields.length cap) (c.fields.set f x).length (flat (c.fields.set f x)) := by
    rw [List.length_set]
    have := row_set (row_set hrow (f * 2) (vI x.1)) (f * 2 + 1) (vI x.2)
    rw [Nat.mul_comm f 2] at this ⊢
    rw [flat_set c.fields f x hf] at this
    exact this
  have hl := (List.getElem?_eq_some_iff.1 hc).1
  refine ⟨⟨?_, ?_, ?_, fun k u l e1 e2 => ?_, ?_, fun k u c' e1 e2 => ?_, by rw [List.length_set]; exact h.lfl, h.ob, h.og, h.of, h.oc, h.ofr, h.ofl, fun k hk => Nat.lt_of_lt_of_le (h.olt k hk) fr.size⟩, fr.mono (fun j _ e => by rw [e, ho]; omega)⟩
  · rw [fr.block b (heap_lt h.blk) (rne h.ob ho (by omega))]; exact h.blk
  · exact ownsRow_fr h.gls fr (fun j e => rne (h.og j e) ho (by omega))
  · exact ownsRow_fr h.frs fr (fun j e => rne (h.of j e) ho (by omega))
  · exact ownsRow_fr (h.fro k u l e1 e2) fr (fun j e => rne (h.ofr k u j e1 e) ho (by omega))
  · rw [flatC_same g.fl a.cells i c { c with fields := c.fields.set f x } hc rfl rfl, List.length_set]
    exact ownsRow_fr h.cls fr (fun j e => rne (h.oc j e) ho (by omega))
  · by_cases hk : k = i
    · subst hk
      rw [hu] at e1
      cases e1
      rw [List.getElem?_set_self hl] at e2
      cases e2
      exact hrow'
    · rw [List.getElem?_set_ne (Ne.symm hk)] at e2
      exact ownsRow_fr (h.flo k u c' e1 e2) fr (fun j e => rne (h.ofl k u j e1 e) ho (by omega))

/-- A cell is gone. -/
theorem RMem.goes {w : World} {b : Nat} {g : RG} {a : RA} (h : RMem w b g a) {cb n cap : Nat} (hcv : g.cv = .slice (some ⟨cb, 0, none⟩) n cap) {i : Nat} {c : CellR} (hc : a.cells[i]? = some c) :
    RMem (w.setCell ⟨cb, i * 3 + 2, none⟩ (.bool false)) b g { a with cells := a.cells.set i { c with there := false } } ∧ Fr (fun j => g.own j ≠ 0) w (w.setCell ⟨cb, i * 3 + 2, none⟩ (.bool false)) := by
  have f := setCell_fr w cb (i * 3 + 2) (.bool false)
  have ho : g.own cb = 4 := h.oc cb (by rw [hcv]; rfl)
  have hrow := h.cls
  obtain ⟨ad, cap', e, -, -⟩ := row_shape hrow
  rw [hcv] at e
  cases e
  rw [hcv] at hrow
  have hl := (List.getElem?_eq_some_iff.1 hc).1
  obtain ⟨u, hu⟩ : ∃ u, g.fl[i]? = some u := ⟨_, List.getElem?_eq_getElem (by rw [h.lfl]; exact hl)⟩
  refine ⟨⟨?_, ?_, ?_, fun k u l e1 e2 => ?_, ?_, fun k u c' e1 e2 => ?_, by rw [List.length_set]; exact h.lfl, h.ob, h.og, h.of, h.oc, h.ofr, h.ofl, fun k hk => Nat.lt_of_lt_of_le (h.olt k hk) f.size⟩, f.mono (fun j _ e => by rw [e, ho]; decide)⟩
  · rw [f.block b (heap_lt h.blk) (rne h.ob ho (by omega))]; exact h.blk
  · exact ownsRow_fr h.gls f (fun j e => rne (h.og j e) ho (by omega))
  · exact ownsRow_fr h.frs f (fun j e => rne (h.of j e) ho (by omega))
  · exact ownsRow_fr (h.fro k u l e1 e2) f (fun j e => rne (h.ofr k u j e1 e) ho (by omega))
  · have := row_set hrow (i * 3 + 2) (.bool false)
    rw [flatC_set g.fl a.cells i u c { c with there := false } 2 (.bool false) hu hc (by omega) rfl] at this
    rw [List.length_set, hcv]
    exact this
  · have key : ∀ c0 : CellR, a.cells[k]? = some c0 → (w.setCell ⟨cb, i * 3 + 2, none⟩ (.bool false)).ownsRow 0 28 2 u c0.fields.length (flat c0.fields) := fun c0 e0 => ownsRow_fr (h.flo k u c0 e1 e0) f (fun j e => rne (h.ofl k u j e1 e) ho (by omega))
    by_cases hk : k = i
    · subst hk
      rw [List.getElem?_set_self hl] at e2
      cases e2
      exact key c hc
    · rw [List.getElem?_set_ne (Ne.symm hk)] at e2
      exact key c' e2

/-- The youngest frame's list is gone. -/
theorem RMem.cut {w : World} {b : Nat} {g : RG} {a : RA} (h : RMem w b g a) {fb n cap k : Nat} (hfv : g.fv = .slice (some ⟨fb, 0, none⟩) n cap) (hk : k ≤ a.frs.length) :
    ∃ g', RMem (w.setCell ⟨b, 1, none⟩ (.slice (some ⟨fb, 0, none⟩) k cap)) b g' { a with frs := a.frs.take k } ∧ g'.own = g.own ∧ g'.cv = g.cv ∧ Fr (fun j => g.own j ≠ 0) w (w.setCell ⟨b, 1, none⟩ (.slice (some ⟨fb, 0, none⟩) k cap)) := by
  have f := setCell_fr w b 1 (.slice (some ⟨fb, 0, none⟩) k cap)
  have hrow := h.frs
  obtain ⟨ad, cap', e, -, -⟩ := row_shape hrow
  rw [hfv] at e
  cases e
  rw [hfv] at hrow
  have hlf := h.lfr
  refine ⟨{ g with fv := .slice (some ⟨fb, 0, none⟩) k cap, fr := g.fr.take k }, ⟨?_, ?_, ?_, fun i u l e1 e2 => ?_, ?_, fun i u c e1 e2 => ?_, h.lfl, h.ob, h.og, fun j e => ?_, h.oc, fun i u j e1 e2 => ?_, h.ofl, fun k hk => Nat.lt_of_lt_of_le (h.olt k hk) f.size⟩, rfl, rfl, f.mono (fun j _ e => by rw [e, h.ob]; decide)⟩
  · rw [set_of h.blk]; rfl
  · exact ownsRow_fr h.gls f (fun j e => rne (h.og j e) h.ob (by omega))
  · have hr2 := ownsRow_fr hrow f (fun j e => rne (h.of j (by rw [hfv]; exact e)) h.ob (by omega))
    rcases hr2.2 with ⟨e1, -⟩ | ⟨g', cap', cur, e1, k1, k2, k3, k4, k5, k6⟩
    · cases e1
    · cases e1
      have hlt : (a.frs.take k).length = k := by simp; omega
      refine ⟨by simp [hlt]; omega, Or.inr ⟨fb, cap, cur, by rw [hlt], k1, k2, (show (a.frs.take k).length ≤ cap by omega), k4, k5, ?_⟩⟩
      show cur.toList.take ((a.frs.take k).length * 1) = g.fr.take k
      rw [hlt, ← k6, List.take_take]
      congr 1
      omega
  · have e1 : (g.fr.take k)[i]? = some u := e1
    have e2 : (a.frs.take k)[i]? = some l := e2
    have hi : i < k := by have := (List.getElem?_eq_some_iff.1 e1).1; simp at this; omega
    rw [List.getElem?_take_of_lt hi] at e1 e2
    exact ownsRow_fr (h.fro i u l e1 e2) f (fun j e => rne (h.ofr i u j e1 e) h.ob (by omega))
  · exact ownsRow_fr h.cls f (fun j e => rne (h.oc j e) h.ob (by omega))
  · exact ownsRow_fr (h.flo i u c e1 e2) f (fun j e => rne (h.ofl i u j e1 e) h.ob (by omega))
  · cases e
    exact h.of fb (by rw [hfv]; rfl)
  · have e1 : (g.fr.take k)[i]? = some u := e1
    have hi : i < k := by have := (List.getElem?_eq_some_iff.1 e1).1; simp at this; omega
    rw [List.getElem?_take_of_lt hi] at e1
    exact h.ofr i u j e1 e2

end Go.Proofs.Ytmdlebolmhnhaab

namespace Go.Proofs.Ytmdlebolmhnhaab
open Go.RowKit (wrap32 wrap64)
open Go.Maps (Keyed)
set_option linter.unusedVariables false
set_option linter.unusedSimpArgs false

/-- The list of frames has grown by one that is empty. -/
theorem RMem.pushed {w w6 : World} {b : Nat} {g : RG} {a : RA} (h : RMem w b g a) {g6 cap : Nat} (hown : w6.ownsRow 0 29 1 (.slice (some ⟨g6, 0, none⟩) (a.frs.length + 1) cap) (a.frs.length + 1) (g.fr ++ [.slice none 0 0]))
    (hgrow : w.grownBy w6 g.fv.ownBlock) (hat : g.fv.ownBlock = some g6 ∨ g6 = w.heap.size) :
    ∃ g', RMem (w6.setCell ⟨b, 1, none⟩ (.slice (some ⟨g6, 0, none⟩) (a.frs.length + 1) cap)) b g' { a with frs := a.frs ++ [[]] } ∧ Fr (fun j => g.own j ≠ 0) w (w6.setCell ⟨b, 1, none⟩ (.slice (some ⟨g6, 0, none⟩) (a.frs.length + 1) cap)) ∧ RExt w.heap.size g g' := by
  have f1 : Fr (fun k => g.fv.ownBlock = some k) w w6 := grown_fr hgrow
  have f2 := setCell_fr w6 b 1 (.slice (some ⟨g6, 0, none⟩) (a.frs.length + 1) cap)
  have hlb := heap_lt h.blk
  have ho6 : ∀ k, k < w.heap.size → (if k = g6 then 3 else g.own k) = g.own k := fun k hk => by
    split
    · rename_i e
      subst e
      rcases hat with e | e
      · exact (h.of _ e).symm
      · omega
    · rfl
  have nb : b ≠ g6 := fun e => by
    rcases hat with e' | e'
    · have := h.of _ e'; rw [← e, h.ob] at this; omega
    · omega
  have hg6 : g6 < w6.heap.size := (World.ownsRow.lt hown g6 rfl).2
  have hb6 : w6.heap[b]? = some (.cells #[g.gv, g.fv, g.cv] 56) := by rw [f1.block b hlb (fun e => rne h.ob (h.of b e) (by omega) rfl)]; exact h.blk
  have keep : ∀ {e size n : Nat} {v : Value} {xs : List Value}, w.ownsRow 0 e size v n xs → (∀ j, v.ownBlock = some j → g.own j ≠ 3 ∧ g.own j ≠ 1) → (w6.setCell ⟨b, 1, none⟩ (.slice (some ⟨g6, 0, none⟩) (a.frs.length + 1) cap)).ownsRow 0 e size v n xs := fun hr hj =>
    ownsRow_fr (ownsRow_fr hr f1 (fun j e ej => (hj j e).1 (h.of j ej))) f2 (fun j e ej => (hj j e).2 (by rw [ej]; exact h.ob))
  have blt : ∀ {e size n : Nat} {v : Value} {xs : List Value}, w.ownsRow 0 e size v n xs → ∀ j, v.ownBlock = some j → j < w.heap.size := fun hr j e => (World.ownsRow.lt hr j e).2
  have hgv : ∀ j, g.gv.ownBlock = some j → g.own j ≠ 3 ∧ g.own j ≠ 1 := fun j e => by rw [h.og j e]; omega
  have hcv : ∀ j, g.cv.ownBlock = some j → g.own j ≠ 3 ∧ g.own j ≠ 1 := fun j e => by rw [h.oc j e]; omega
  have hlf := h.lfr
  refine ⟨{ g with fv := .slice (some ⟨g6, 0, none⟩) (a.frs.length + 1) cap, fr := g.fr ++ [.slice none 0 0], own := fun k => if k = g6 then 3 else g.own k }, ⟨?_, keep h.gls hgv, ?_, fun i u l e1 e2 => ?_, keep h.cls hcv, fun i u c e1 e2 => ?_, h.lfl, (ho6 b hlb).trans h.ob, fun j e => (ho6 j (blt h.gls j e)).trans (h.og j e), fun j e => ?_, fun j e => (ho6 j (blt h.cls j e)).trans (h.oc j e), fun i u j e1 e2 => ?_, fun i u j e1 e2 => ?_, fun k hk => ?_⟩, ?_, ho6⟩
  · rw [set_of hb6]; rfl
  · have := ownsRow_fr hown f2 (fun j e ej => by cases e; exact nb ej.symm)
    simpa using this
  · rcases Nat.lt_or_ge i g.fr.length with hi | hi
    · have e1 : (g.fr ++ [.slice none 0 0])[i]? = some u := e1
      have e2 : (a.frs ++ [[]])[i]? = some l := e2
      rw [List.getElem?_append_left hi] at e1
      rw [List.getElem?_append_left (by omega)] at e2
      exact keep (h.fro i u l e1 e2) (fun j e => by rw [h.ofr i u j e1 e]; omega)
    · have e1 : (g.fr ++ [.slice none 0 0])[i]? = some u := e1
      have e2 : (a.frs ++ [[]])[i]? = some l := e2
      have hl := (List.getElem?_eq_some_iff.1 e1).1
      simp at hl
      have : i = g.fr.length := by omega
      subst this
      rw [List.getElem?_append_right (Nat.le_refl _)] at e1
      rw [List.getElem?_append_right (by omega)] at e2
      simp [hlf] at e1 e2
      subst e1; subst e2
      exact World.ownsRow_nil _ _ _ _
  · exact keep (h.flo i u c e1 e2) (fun j e => by rw [h.ofl i u j e1 e]; omega)
  · cases e
    exact if_pos rfl
  · have e1 : (g.fr ++ [.slice none 0 0])[i]? = some u := e1
    rcases Nat.lt_or_ge i g.fr.length with hi | hi
    · rw [List.getElem?_append_left hi] at e1
      obtain ⟨l, hl⟩ : ∃ l, a.frs[i]? = some l := ⟨_, List.getElem?_eq_getElem (by omega)⟩
      exact (ho6 j (blt (h.fro i u l e1 hl) j e2)).trans (h.ofr i u j e1 e2)
    · have hl := (List.getElem?_eq_some_iff.1 e1).1
      simp at hl
      have : i = g.fr.length := by omega
      subst this
      rw [List.getElem?_append_right (Nat.le_refl _)] at e1
      simp at e1
      subst e1
      cases e2
  · have e1 : g.fl[i]? = some u := e1
    obtain ⟨c, hc⟩ : ∃ c, a.cells[i]? = some c := ⟨_, List.getElem?_eq_getElem (by have := (List.getElem?_eq_some_iff.1 e1).1; have := h.lfl; omega)⟩
    exact (ho6 j (blt (h.flo i u c e1 hc) j e2)).trans (h.ofl i u j e1 e2)
  · have hk' : (if k = g6 then 3 else g.own k) ≠ 0 := hk
    split at hk'
    · rename_i e
      subst e
      simpa using hg6
    · have := h.olt k hk'
      have := f1.size
      simp
      omega
  · exact (f1.mono (fun k _ e => by rw [h.of k e]; decide)).then f2 (fun j hj e => by rw [e, h.ob]; decide)

end Go.Proofs.Ytmdlebolmhnhaab
