import Derived.Test.YtmdlebolmhnhaabP9J
namespace Go.Proofs.Ytmdlebolmhnhaab
open Go.RowKit (wrap32 wrap64)
open Go.Maps (Keyed)
set_option linter.unusedVariables false
set_option linter.unusedSimpArgs false

theorem snoc_get {α : Type} {l : List α} {x y : α} {i : Nat} (h : (l ++ [x])[i]? = some y) : (i < l.length ∧ l[i]? = some y) ∨ (i = l.length ∧ y = x) := by
  rcases Nat.lt_or_ge i l.length with hi | hi
  · rw [List.getElem?_append_left hi] at h
    exact Or.inl ⟨hi, h⟩
  · have hl := (List.getElem?_eq_some_iff.1 h).1
    simp at hl
    have : i = l.length := by omega
    subst this
    rw [List.getElem?_append_right (Nat.le_refl _)] at h
    simp at h
    exact Or.inr ⟨rfl, h.symm⟩

/-- A cell more. -/
theorem RMem.added {w w6 : World} {b : Nat} {g : RG} {a : RA} (h : RMem w b g a) {u : Value} {c : CellR} (hu : w.ownsRow 0 28 2 u c.fields.length (flat c.fields)) (hnew : ∀ k, u.ownBlock = some k → g.own k = 0) {s : Nat} (hs : s ≤ w.heap.size) (hus : ∀ k, u.ownBlock = some k → s ≤ k) {g6 cap : Nat}
    (hown : w6.ownsRow 0 77 3 (.slice (some ⟨g6, 0, none⟩) (a.cells.length + 1) cap) (a.cells.length + 1) (flatC g.fl a.cells ++ cellC u c)) (hgrow : w.grownBy w6 g.cv.ownBlock) (hat : g.cv.ownBlock = some g6 ∨ g6 = w.heap.size) :
    ∃ g', RMem (w6.setCell ⟨b, 2, none⟩ (.slice (some ⟨g6, 0, none⟩) (a.cells.length + 1) cap)) b g' { a with cells := a.cells ++ [c] } ∧ Fr (fun j => g.own j ≠ 0) w (w6.setCell ⟨b, 2, none⟩ (.slice (some ⟨g6, 0, none⟩) (a.cells.length + 1) cap)) ∧ (∀ k, k < s → g'.own k = g.own k) ∧ g'.fv = g.fv ∧ g'.fr = g.fr ∧ g'.cv = .slice (some ⟨g6, 0, none⟩) (a.cells.length + 1) cap := by
  have f1 : Fr (fun k => g.cv.ownBlock = some k) w w6 := grown_fr hgrow
  have f2 := setCell_fr w6 b 2 (.slice (some ⟨g6, 0, none⟩) (a.cells.length + 1) cap)
  have hlb := heap_lt h.blk
  have hub : ∀ k, u.ownBlock = some k → k < w.heap.size := fun k e => RMem.blt hu k e
  have ho6 : ∀ k, g.own k ≠ 0 → (if k = g6 then 4 else if u.ownBlock = some k then 6 + 2 * a.cells.length else g.own k) = g.own k := fun k hk => by
    split
    · rename_i e
      subst e
      rcases hat with e | e
      · exact (h.oc _ e).symm
      · have := h.olt _ hk; omega
    · split
      · rename_i e
        exact absurd (hnew k e) hk
      · rfl
  have ug6 : u.ownBlock ≠ some g6 := fun e => by
    rcases hat with e' | e'
    · have := h.oc _ e'; rw [hnew _ e] at this; omega
    · have := hub _ e; omega
  have nb : b ≠ g6 := fun e => by
    rcases hat with e' | e'
    · have := h.oc _ e'; rw [← e, h.ob] at this; omega
    · omega
  have hg6 : g6 < w6.heap.size := (World.ownsRow.lt hown g6 rfl).2
  have hb6 : w6.heap[b]? = some (.cells #[g.gv, g.fv, g.cv] 56) := by rw [f1.block b hlb (fun e => rne h.ob (h.oc b e) (by omega) rfl)]; exact h.blk
  have keep : ∀ {e size n : Nat} {v : Value} {xs : List Value}, w.ownsRow 0 e size v n xs → (∀ j, v.ownBlock = some j → g.own j ≠ 4 ∧ g.own j ≠ 1) → (w6.setCell ⟨b, 2, none⟩ (.slice (some ⟨g6, 0, none⟩) (a.cells.length + 1) cap)).ownsRow 0 e size v n xs := fun hr hj =>
    ownsRow_fr (ownsRow_fr hr f1 (fun j e ej => (hj j e).1 (h.oc j ej))) f2 (fun j e ej => (hj j e).2 (by rw [ej]; exact h.ob))
  have hlf := h.lfl
  refine ⟨{ g with cv := .slice (some ⟨g6, 0, none⟩) (a.cells.length + 1) cap, fl := g.fl ++ [u], own := fun k => if k = g6 then 4 else if u.ownBlock = some k then 6 + 2 * a.cells.length else g.own k },
    ⟨?_, keep h.gls (fun j e => by rw [h.og j e]; omega), keep h.frs (fun j e => by rw [h.of j e]; omega), fun i u l e1 e2 => keep (h.fro i u l e1 e2) (fun j e => by rw [h.ofr i u j e1 e]; omega), ?_, fun i u' c' e1 e2 => ?_, ?_, (ho6 b (by rw [h.ob]; decide)).trans h.ob, fun j e => (ho6 j (by rw [h.og j e]; decide)).trans (h.og j e), fun j e => (ho6 j (by rw [h.of j e]; decide)).trans (h.of j e), fun j e => ?_, fun i u j e1 e2 => (ho6 j (by rw [h.ofr i u j e1 e2]; omega)).trans (h.ofr i u j e1 e2), fun i u' j e1 e2 => ?_, fun k hk => ?_⟩, ?_, fun k hk => ?_, rfl, rfl, rfl⟩
  · rw [set_of hb6]; rfl
  · have := ownsRow_fr hown f2 (fun j e ej => by cases e; exact nb ej.symm)
    rw [← flatC_snoc _ _ _ _ hlf] at this
    simpa using this
  · rcases snoc_get (show (g.fl ++ [u])[i]? = some u' from e1) with ⟨hi, e1⟩ | ⟨hi, rfl⟩
    · rcases snoc_get (show (a.cells ++ [c])[i]? = some c' from e2) with ⟨hi', e2⟩ | ⟨hi', rfl⟩
      · exact keep (h.flo i u' c' e1 e2) (fun j e => by rw [h.ofl i u' j e1 e]; omega)
      · omega
    · rcases snoc_get (show (a.cells ++ [c])[i]? = some c' from e2) with ⟨hi', e2⟩ | ⟨hi', rfl⟩
      · omega
      · exact keep hu (fun j e => by rw [hnew j e]; omega)
  · show (g.fl ++ [u]).length = (a.cells ++ [c]).length
    simp [hlf]
  · cases e
    exact if_pos rfl
  · rcases snoc_get (show (g.fl ++ [u])[i]? = some u' from e1) with ⟨hi, e1⟩ | ⟨hi, rfl⟩
    · exact (ho6 j (by rw [h.ofl i u' j e1 e2]; omega)).trans (h.ofl i u' j e1 e2)
    · show (if j = g6 then 4 else if u'.ownBlock = some j then 6 + 2 * a.cells.length else g.own j) = 6 + 2 * i
      rw [if_neg (fun e => ug6 (by rw [← e]; exact e2)), if_pos e2]
      omega
  · have hk' : (if k = g6 then 4 else if u.ownBlock = some k then 6 + 2 * a.cells.length else g.own k) ≠ 0 := hk
    have := f1.size
    split at hk'
    · rename_i e
      subst e
      simpa using hg6
    · split at hk'
      · rename_i e
        have := hub k e
        simp
        omega
      · have := h.olt k hk'
        simp
        omega
  · exact (f1.mono (fun k _ e => by rw [h.oc k e]; decide)).then f2 (fun j hj e => by rw [e, h.ob]; decide)
  · show (if k = g6 then 4 else if u.ownBlock = some k then 6 + 2 * a.cells.length else g.own k) = g.own k
    split
    · rename_i e
      subst e
      rcases hat with e | e
      · exact (h.oc _ e).symm
      · omega
    · split
      · rename_i e
        have := hus k e
        omega
      · rfl

/-- A frame has one number more. -/
theorem RMem.numbered {w w6 : World} {b : Nat} {g : RG} {a : RA} (h : RMem w b g a) {t n : Nat} {l : List Nat} {u : Value} (hl : a.frs[t]? = some l) (hu : g.fr[t]? = some u) {fb cp : Nat} (hfv : g.fv = .slice (some ⟨fb, 0, none⟩) a.frs.length cp) {g6 cap : Nat}
    (hown : w6.ownsRow 0 3 1 (.slice (some ⟨g6, 0, none⟩) (l.length + 1) cap) (l.length + 1) ((l.map fun n : Nat => vI n) ++ [vI n])) (hgrow : w.grownBy w6 u.ownBlock) (hat : u.ownBlock = some g6 ∨ g6 = w.heap.size) :
    ∃ g', RMem (w6.setCell ⟨fb, t, none⟩ (.slice (some ⟨g6, 0, none⟩) (l.length + 1) cap)) b g' { a with frs := a.frs.set t (l ++ [n]) } ∧ Fr (fun j => g.own j ≠ 0) w (w6.setCell ⟨fb, t, none⟩ (.slice (some ⟨g6, 0, none⟩) (l.length + 1) cap)) ∧ RExt w.heap.size g g' ∧ g'.cv = g.cv := by
  have f1 : Fr (fun k => u.ownBlock = some k) w w6 := grown_fr hgrow
  have f2 := setCell_fr w6 fb t (.slice (some ⟨g6, 0, none⟩) (l.length + 1) cap)
  have hfo : g.own fb = 3 := h.of fb (by rw [hfv]; rfl)
  have huo : ∀ k, u.ownBlock = some k → g.own k = 5 + 2 * t := fun k e => h.ofr t u k hu e
  have htl := (List.getElem?_eq_some_iff.1 hl).1
  have htf := (List.getElem?_eq_some_iff.1 hu).1
  have ho6 : ∀ k, k < w.heap.size → (if k = g6 then 5 + 2 * t else g.own k) = g.own k := fun k hk => by
    split
    · rename_i e
      subst e
      rcases hat with e | e
      · exact (huo _ e).symm
      · omega
    · rfl
  have hfl : fb < w.heap.size := h.olt fb (by rw [hfo]; decide)
  have nb : fb ≠ g6 := fun e => by
    rcases hat with e' | e'
    · have := huo _ e'; rw [← e, hfo] at this; omega
    · omega
  have hg6 : g6 < w6.heap.size := (World.ownsRow.lt hown g6 rfl).2
  have keep : ∀ {e size n : Nat} {v : Value} {xs : List Value}, w.ownsRow 0 e size v n xs → (∀ j, v.ownBlock = some j → g.own j ≠ 5 + 2 * t ∧ g.own j ≠ 3) → (w6.setCell ⟨fb, t, none⟩ (.slice (some ⟨g6, 0, none⟩) (l.length + 1) cap)).ownsRow 0 e size v n xs := fun hr hj =>
    ownsRow_fr (ownsRow_fr hr f1 (fun j e ej => (hj j e).1 (huo j ej))) f2 (fun j e ej => (hj j e).2 (by rw [ej]; exact hfo))
  refine ⟨{ g with fr := g.fr.set t (.slice (some ⟨g6, 0, none⟩) (l.length + 1) cap), own := fun k => if k = g6 then 5 + 2 * t else g.own k },
    ⟨?_, keep h.gls (fun j e => by rw [h.og j e]; omega), ?_, fun i u' l' e1 e2 => ?_, keep h.cls (fun j e => by rw [h.oc j e]; omega), fun i u c e1 e2 => keep (h.flo i u c e1 e2) (fun j e => by rw [h.ofl i u j e1 e]; omega), h.lfl, (ho6 b (heap_lt h.blk)).trans h.ob, fun j e => (ho6 j (RMem.blt h.gls j e)).trans (h.og j e), fun j e => (ho6 j (RMem.blt h.frs j e)).trans (h.of j e), fun j e => (ho6 j (RMem.blt h.cls j e)).trans (h.oc j e), fun i u' j e1 e2 => ?_, fun i u' j e1 e2 => ?_, fun k hk => ?_⟩, ?_, ho6, rfl⟩
  · rw [f2.block b (Nat.lt_of_lt_of_le (heap_lt h.blk) f1.size) (rne h.ob hfo (by omega)), f1.block b (heap_lt h.blk) (fun e => rne h.ob (huo b e) (by omega) rfl)]; exact h.blk
  · have hr := h.frs
    rw [hfv] at hr
    have := row_set (ownsRow_fr hr f1 (fun j e ej => by cases e; exact rne hfo (huo _ ej) (by omega) rfl)) t (.slice (some ⟨g6, 0, none⟩) (l.length + 1) cap)
    show (w6.setCell ⟨fb, t, none⟩ (.slice (some ⟨g6, 0, none⟩) (l.length + 1) cap)).ownsRow 0 29 1 g.fv (a.frs.set t (l ++ [n])).length (g.fr.set t (.slice (some ⟨g6, 0, none⟩) (l.length + 1) cap))
    rw [List.length_set, hfv]
    exact this
  · have e1 : (g.fr.set t (.slice (some ⟨g6, 0, none⟩) (l.length + 1) cap))[i]? = some u' := e1
    have e2 : (a.frs.set t (l ++ [n]))[i]? = some l' := e2
    by_cases hi : i = t
    · subst hi
      rw [List.getElem?_set_self htf] at e1
      rw [List.getElem?_set_self htl] at e2
      cases e1
      cases e2
      have := ownsRow_fr hown f2 (fun j e ej => by cases e; exact nb ej.symm)
      simpa using this
    · rw [List.getElem?_set_ne (Ne.symm hi)] at e1 e2
      exact keep (h.fro i u' l' e1 e2) (fun j e => by rw [h.ofr i u' j e1 e]; omega)
  · have e1 : (g.fr.set t (.slice (some ⟨g6, 0, none⟩) (l.length + 1) cap))[i]? = some u' := e1
    by_cases hi : i = t
    · subst hi
      rw [List.getElem?_set_self htf] at e1
      cases e1
      cases e2
      exact if_pos rfl
    · rw [List.getElem?_set_ne (Ne.symm hi)] at e1
      obtain ⟨l2, hl2⟩ : ∃ l2, a.frs[i]? = some l2 := ⟨_, List.getElem?_eq_getElem (by have := (List.getElem?_eq_some_iff.1 e1).1; have := h.lfr; omega)⟩
      exact (ho6 j (RMem.blt (h.fro i u' l2 e1 hl2) j e2)).trans (h.ofr i u' j e1 e2)
  · have e1 : g.fl[i]? = some u' := e1
    obtain ⟨c, hc⟩ : ∃ c, a.cells[i]? = some c := ⟨_, List.getElem?_eq_getElem (by have := (List.getElem?_eq_some_iff.1 e1).1; have := h.lfl; omega)⟩
    exact (ho6 j (RMem.blt (h.flo i u' c e1 hc) j e2)).trans (h.ofl i u' j e1 e2)
  · have hk' : (if k = g6 then 5 + 2 * t else g.own k) ≠ 0 := hk
    have := f1.size
    split at hk'
    · rename_i e
      subst e
      simpa using hg6
    · have := h.olt k hk'
      simp
      omega
  · exact (f1.mono (fun k _ e => by rw [huo k e]; omega)).then f2 (fun j hj e => by rw [e, hfo]; decide)

end Go.Proofs.Ytmdlebolmhnhaab
