import Derived.Test.YtmdlebolmhnhaaaH2
namespace Go.Proofs.Ytmdlebolmhnhaaa
open Go.RowKit (wrap32 wrap64)
open Go.Maps (Keyed)
set_option linter.unusedVariables false
set_option linter.unusedSimpArgs false

theorem LB_set {lb : Nat} {av : Value} {E : List Ent} {i : Nat} {r r' : Ent} (hr : E[i]? = some r) (hfv : r'.fv = r.fv) {k : Nat} (h : LB lb av (E.set i r') k) : LB lb av E k := by
  have hl := (List.getElem?_eq_some_iff.1 hr).1
  rcases h with h | h | ⟨j, s, h1, h2⟩
  · exact Or.inl h
  · exact Or.inr (Or.inl h)
  · by_cases hj : j = i
    · subst hj
      rw [List.getElem?_set_self hl] at h1
      cases h1
      exact Or.inr (Or.inr ⟨j, r, hr, by rw [← hfv]; exact h2⟩)
    · rw [List.getElem?_set_ne (Ne.symm hj)] at h1
      exact Or.inr (Or.inr ⟨j, s, h1, h2⟩)

theorem set_get {α : Type} {E : List α} {i j : Nat} {r' s : α} {r : α} (hr : E[i]? = some r) (h : (E.set i r')[j]? = some s) : (j = i ∧ s = r') ∨ (j ≠ i ∧ E[j]? = some s) := by
  have hl := (List.getElem?_eq_some_iff.1 hr).1
  by_cases hj : j = i
  · subst hj
    rw [List.getElem?_set_self hl] at h
    cases h
    exact Or.inl ⟨rfl, rfl⟩
  · rw [List.getElem?_set_ne (Ne.symm hj)] at h
    exact Or.inr ⟨hj, h⟩

/-- The three kinds of blocks are apart. -/
theorem Led.kinds {w : World} {B lb b d : Nat} {av : Value} {E : List Ent} (h : Led w B lb b d av E) : av.ownBlock ≠ some lb ∧ (∀ (i : Nat) (r : Ent), E[i]? = some r → r.fv.ownBlock ≠ some lb) ∧ ∀ (i : Nat) (r : Ent) (k : Nat), E[i]? = some r → av.ownBlock = some k → r.fv.ownBlock ≠ some k := by
  have kd : ∀ {e size n : Nat} {v : Value} {xs : List Value} {k : Nat}, w.ownsRow B e size v n xs → v.ownBlock = some k → ∃ cur, w.heap[k]? = some (.cells cur e) := by
    intro e size n v xs k hr hk
    rcases hr.2 with ⟨e1, -⟩ | ⟨g', cap', cur, e1, k1, k2, -⟩
    · rw [e1] at hk; cases hk
    · rw [e1] at hk; cases hk; exact ⟨cur, k2⟩
  refine ⟨fun e => ?_, fun i r hr e => ?_, fun i r k hr e1 e2 => ?_⟩
  · obtain ⟨cur, hc⟩ := kd h.row e
    rw [h.blk] at hc
    cases hc
  · obtain ⟨cur, hc⟩ := kd (h.fld i r hr) e
    rw [h.blk] at hc
    cases hc
  · obtain ⟨c1, hc1⟩ := kd h.row e1
    obtain ⟨c2, hc2⟩ := kd (h.fld i r hr) e2
    rw [hc1] at hc2
    cases hc2

theorem setCell_fr (w : World) (k o : Nat) (u : Value) : Fr (fun j => j = k) w (w.setCell ⟨k, o, none⟩ u) := Fr.setCell (S := fun j => j = k) (Fr.refl _ w) _ _ (Or.inl rfl)

/-- How many frames there are is another number. -/
theorem Both.depth {w0 w : World} {b : Nat} {g : Gh} {a : Abs} {lb d : Nat} {av : Value} {E : List Ent} (h : Both w0 w b g a lb d av E) (d' : Nat) : Both w0 (w.setCell ⟨lb, 1, none⟩ (vI d')) b g a lb d' av E := by
  have f := setCell_fr w lb 1 (vI d')
  obtain ⟨k1, k2, -⟩ := h.led.kinds
  refine ⟨h.mem.fr f (fun k hk e => hk (by rw [e]; exact h.out lb (Or.inl rfl))), ⟨?_, ownsRow_fr h.led.row f (fun j e ej => k1 (by rw [e, ej])), fun i r hr => ownsRow_fr (h.led.fld i r hr) f (fun j e ej => k2 i r hr (by rw [e, ej])), h.led.num, h.led.apart, h.led.base⟩, h.out, h.own, h.fr.then f (fun j hj e => by have := h.led.base; omega)⟩
  rw [set_of h.led.blk]
  rfl

/-- A cell of an entry is another. -/
theorem Both.entry {w0 w : World} {b : Nat} {g : Gh} {a : Abs} {lb d : Nat} {av : Value} {E : List Ent} (h : Both w0 w b g a lb d av E) {ab cap : Nat} (hav : av = .slice (some ⟨ab, 0, none⟩) E.length cap) {i : Nat} {r r' : Ent} (hr : E[i]? = some r) (hfv : r'.fv = r.fv) (hnum : r'.num = r.num) (hfl : r'.m.fields = r.m.fields) {j : Nat} (hj : j < 5) {u : Value} (he : (entC r).set j u = entC r') :
    Both w0 (w.setCell ⟨ab, i * 5 + j, none⟩ u) b g a lb d av (E.set i r') := by
  subst hav
  have f := setCell_fr w ab (i * 5 + j) u
  obtain ⟨k1, -, k3⟩ := h.led.kinds
  have hlt := h.led.lt (k := ab) (Or.inr (Or.inl rfl))
  refine ⟨h.mem.fr f (fun k hk e => hk (by rw [e]; exact h.out ab (Or.inr (Or.inl rfl)))), ⟨?_, ?_, fun i' r1 hr1 => ?_, fun i' r1 hr1 => ?_, fun i' j' r1 s1 k e1 e2 e3 e4 => ?_, h.led.base⟩, fun k hk => h.out k (LB_set hr hfv hk), h.own, h.fr.then f (fun j hj e => by omega)⟩
  · rw [f.block lb (heap_lt h.led.blk) (fun e => k1 (by rw [e]; rfl))]; exact h.led.blk
  · have := row_set h.led.row (i * 5 + j) u
    rw [flatE_set E i r r' j u hr hj he] at this
    rw [List.length_set]
    exact this
  · have hf := fun q (s : Ent) (hs : E[q]? = some s) => ownsRow_fr (h.led.fld q s hs) f (fun k e ek => k3 q s ab hs rfl (by rw [e, ek]))
    rcases set_get hr hr1 with ⟨rfl, rfl⟩ | ⟨-, h1⟩
    · rw [hfv, hfl]; exact hf _ r hr
    · exact hf _ _ h1
  · rcases set_get hr hr1 with ⟨rfl, rfl⟩ | ⟨-, h1⟩
    · rw [hnum]; exact h.led.num _ r hr
    · exact h.led.num _ _ h1
  · rcases set_get hr e1 with ⟨rfl, rfl⟩ | ⟨n1, h1⟩ <;> rcases set_get hr e2 with ⟨rfl, rfl⟩ | ⟨n2, h2⟩
    · rfl
    · exact h.led.apart _ _ r s1 k hr h2 (by rw [← hfv]; exact e3) e4
    · exact h.led.apart _ _ r1 r k h1 hr e3 (by rw [← hfv]; exact e4)
    · exact h.led.apart _ _ r1 s1 k h1 h2 e3 e4

theorem flat_setRow {w : World} {B n cap g : Nat} {l : List Val} (h : w.ownsRow B 32 2 (.slice (some ⟨g, 0, none⟩) n cap) n (flat l)) {f : Nat} (hf : f < l.length) (x : Val) : (set2 w g (f * 2) x).ownsRow B 32 2 (.slice (some ⟨g, 0, none⟩) n cap) n (flat (l.set f x)) := by
  have := row_set (row_set h (f * 2) (vI x.1)) (f * 2 + 1) (vI x.2)
  rw [Nat.mul_comm f 2] at this ⊢
  rw [flat_set l f x hf] at this
  exact this

/-- A field of an entry is another. -/
theorem Both.field {w0 w : World} {b : Nat} {g : Gh} {a : Abs} {lb d : Nat} {av : Value} {E : List Ent} (h : Both w0 w b g a lb d av E) {i : Nat} {r : Ent} (hr : E[i]? = some r) {fb fc : Nat} (hfv : r.fv = .slice (some ⟨fb, 0, none⟩) r.m.fields.length fc) {f : Nat} (hf : f < r.m.fields.length) (x : Val) :
    Both w0 (set2 w fb (f * 2) x) b g a lb d av (E.set i { r with m := { r.m with fields := r.m.fields.set f x } }) := by
  have fr := set2_fr w fb (f * 2) x
  obtain ⟨-, k2, k3⟩ := h.led.kinds
  have hown : r.fv.ownBlock = some fb := by rw [hfv]; rfl
  have hlt := h.led.lt (k := fb) (Or.inr (Or.inr ⟨i, r, hr, hown⟩))
  have hrow := h.led.fld i r hr
  rw [hfv] at hrow
  have hrow' := flat_setRow hrow hf x
  refine ⟨h.mem.fr fr (fun k hk e => hk (by rw [e]; exact h.out fb (Or.inr (Or.inr ⟨i, r, hr, hown⟩)))), ⟨?_, ?_, fun i' r1 hr1 => ?_, fun i' r1 hr1 => ?_, fun i' j' r1 s1 k e1 e2 e3 e4 => ?_, h.led.base⟩, fun k hk => h.out k (LB_set hr (show ({ r with m := { r.m with fields := r.m.fields.set f x } } : Ent).fv = r.fv from rfl) hk), h.own, h.fr.then fr (fun j hj e => by omega)⟩
  · rw [fr.block lb (heap_lt h.led.blk) (fun e => k2 i r hr (by rw [e]; exact hown))]; exact h.led.blk
  · have := ownsRow_fr h.led.row fr (fun k e ek => k3 i r k hr e (by rw [ek]; exact hown))
    have e : flatE (E.set i { r with m := { r.m with fields := r.m.fields.set f x } }) = flatE E := by
      have := flatE_set E i r { r with m := { r.m with fields := r.m.fields.set f x } } 0 (vI r.num) hr (by omega) rfl
      rw [← this]
      apply List.ext_getElem?
      intro q
      by_cases hq : q = i * 5 + 0
      · subst hq
        rw [List.getElem?_set_self (by rw [flatE_length]; have := (List.getElem?_eq_some_iff.1 hr).1; omega), flatE_get E i r 0 hr (by omega)]
        rfl
      · rw [List.getElem?_set_ne (Ne.symm hq)]
    rw [List.length_set, e]
    exact this
  · rcases set_get hr hr1 with ⟨rfl, rfl⟩ | ⟨n1, h1⟩
    · show (set2 w fb (f * 2) x).ownsRow _ 32 2 r.fv (r.m.fields.set f x).length (flat (r.m.fields.set f x))
      rw [List.length_set, hfv]
      exact hrow'
    · exact ownsRow_fr (h.led.fld _ _ h1) fr (fun k e ek => n1 (h.led.apart i' i r1 r k h1 hr e (by rw [ek]; exact hown)))
  · rcases set_get hr hr1 with ⟨rfl, rfl⟩ | ⟨-, h1⟩
    · exact h.led.num _ r hr
    · exact h.led.num _ _ h1
  · rcases set_get hr e1 with ⟨rfl, rfl⟩ | ⟨n1, h1⟩ <;> rcases set_get hr e2 with ⟨rfl, rfl⟩ | ⟨n2, h2⟩
    · rfl
    · exact h.led.apart _ _ r s1 k hr h2 e3 e4
    · exact h.led.apart _ _ r1 r k h1 hr e3 e4
    · exact h.led.apart _ _ r1 s1 k h1 h2 e3 e4

/-- One more entry: the list has grown, and stands in the ledger. -/
theorem Both.grow {w0 w w6 : World} {b : Nat} {g : Gh} {a : Abs} {lb d : Nat} {av : Value} {E : List Ent} (h : Both w0 w b g a lb d av E) {r : Ent} (hnum : r.num = ((E.length + 1 : Nat) : Int)) (hfld : w.ownsRow w0.heap.size 32 2 r.fv r.m.fields.length (flat r.m.fields)) (hnew : ∀ k, r.fv.ownBlock = some k → g.own k = 0 ∧ ¬ LB lb av E k) {g6 cap6 : Nat}
    (hown : w6.ownsRow w0.heap.size 76 5 (.slice (some ⟨g6, 0, none⟩) (E.length + 1) cap6) (E.length + 1) (flatE E ++ entC r)) (hgrow : w.grownBy w6 av.ownBlock) (hat : av.ownBlock = some g6 ∨ g6 = w.heap.size) :
    Both w0 (w6.setCell ⟨lb, 2, none⟩ (.slice (some ⟨g6, 0, none⟩) (E.length + 1) cap6)) b g a lb d (.slice (some ⟨g6, 0, none⟩) (E.length + 1) cap6) (E ++ [r]) := by
  have f6 : Fr (fun j => av.ownBlock = some j) w w6 := grown_fr hgrow
  have fs := setCell_fr w6 lb 2 (.slice (some ⟨g6, 0, none⟩) (E.length + 1) cap6)
  obtain ⟨k1, k2, k3⟩ := h.led.kinds
  have hlb := heap_lt h.led.blk
  have kd : ∀ {n : Nat} {v : Value} {xs : List Value} {k : Nat}, w.ownsRow w0.heap.size 32 2 v n xs → v.ownBlock = some k → k < w.heap.size ∧ ∃ cur, w.heap[k]? = some (.cells cur 32) := by
    intro n v xs k hr hk
    rcases hr.2 with ⟨e1, -⟩ | ⟨g', cap', cur, e1, k1, k2, -⟩
    · rw [e1] at hk; cases hk
    · rw [e1] at hk; cases hk; exact ⟨heap_lt k2, cur, k2⟩
  have avk : ∀ k, av.ownBlock = some k → ∃ cur, w.heap[k]? = some (.cells cur 76) := fun k hk => by
    rcases h.led.row.2 with ⟨e1, -⟩ | ⟨g', cap', cur, e1, k1, k2, -⟩
    · rw [e1] at hk; cases hk
    · rw [e1] at hk; cases hk; exact ⟨cur, k2⟩
  have nb : lb ≠ g6 := fun e => by
    rcases hat with e' | e'
    · exact k1 (by rw [e', e])
    · omega
  have hb6 : w6.heap[lb]? = some (.cells #[ptr b, vI d, av] 52) := by rw [f6.block lb hlb k1]; exact h.led.blk
  -- rows of fields stay
  have stay : ∀ (v : Value) (n : Nat) (xs : List Value), w.ownsRow w0.heap.size 32 2 v n xs → (w6.setCell ⟨lb, 2, none⟩ (.slice (some ⟨g6, 0, none⟩) (E.length + 1) cap6)).ownsRow w0.heap.size 32 2 v n xs := fun v n xs hr => by
    refine ownsRow_fr (ownsRow_fr hr f6 (fun j e ej => ?_)) fs (fun j e ej => ?_)
    · obtain ⟨-, c1, hc1⟩ := kd hr e
      obtain ⟨c2, hc2⟩ := avk j ej
      rw [hc1] at hc2
      cases hc2
    · obtain ⟨-, c1, hc1⟩ := kd hr e
      rw [ej, h.led.blk] at hc1
      cases hc1
  have lbE : ∀ k, LB lb (.slice (some ⟨g6, 0, none⟩) (E.length + 1) cap6) (E ++ [r]) k → LB lb av E k ∨ k = w.heap.size ∨ r.fv.ownBlock = some k := by
    rintro k (rfl | e | ⟨i, s, h1, h2⟩)
    · exact Or.inl (Or.inl rfl)
    · cases e
      rcases hat with e' | e'
      · exact Or.inl (Or.inr (Or.inl e'))
      · exact Or.inr (Or.inl e')
    · rcases Nat.lt_or_ge i E.length with hi | hi
      · rw [List.getElem?_append_left hi] at h1
        exact Or.inl (Or.inr (Or.inr ⟨i, s, h1, h2⟩))
      · rw [List.getElem?_append_right hi] at h1
        have h0 := (List.getElem?_eq_some_iff.1 h1).1
        simp at h0
        have : i - E.length = 0 := by omega
        rw [this] at h1
        simp at h1
        subst h1
        exact Or.inr (Or.inr h2)
  have get : ∀ (i : Nat) (s : Ent), (E ++ [r])[i]? = some s → E[i]? = some s ∨ (i = E.length ∧ s = r) := by
    intro i s h1
    rcases Nat.lt_or_ge i E.length with hi | hi
    · rw [List.getElem?_append_left hi] at h1
      exact Or.inl h1
    · rw [List.getElem?_append_right hi] at h1
      have h0 := (List.getElem?_eq_some_iff.1 h1).1
      simp at h0
      have : i - E.length = 0 := by omega
      rw [this] at h1
      simp at h1
      exact Or.inr ⟨by omega, h1.symm⟩
  refine ⟨(h.mem.fr f6 (fun k hk e => hk (h.out k (Or.inr (Or.inl e))))).fr fs (fun k hk e => hk (by rw [e]; exact h.out lb (Or.inl rfl))), ⟨?_, ?_, fun i s hs => ?_, fun i s hs => ?_, fun i j s t k e1 e2 e3 e4 => ?_, h.led.base⟩, fun k hk => ?_, h.own, (h.fr.then f6 (fun j hj e => by have := (h.led.lt (k := j) (Or.inr (Or.inl e))).1; omega)).then fs (fun j hj e => by have := h.led.base; omega)⟩
  · rw [set_of hb6]; rfl
  · rw [List.length_append, flatE_append]
    have := ownsRow_fr hown fs (fun j e ej => by cases e; exact nb ej.symm)
    simpa [flatE] using this
  · rcases get i s hs with h1 | ⟨rfl, rfl⟩
    · exact stay _ _ _ (h.led.fld i s h1)
    · exact stay _ _ _ hfld
  · rcases get i s hs with h1 | ⟨rfl, rfl⟩
    · exact h.led.num i s h1
    · exact hnum
  · rcases get i s e1 with h1 | ⟨rfl, rfl⟩ <;> rcases get j t e2 with h2 | ⟨rfl, rfl⟩
    · exact h.led.apart i j s t k h1 h2 e3 e4
    · exact absurd (Or.inr (Or.inr ⟨i, s, h1, e3⟩)) (hnew k e4).2
    · exact absurd (Or.inr (Or.inr ⟨j, t, h2, e4⟩)) (hnew k e3).2
    · rfl
  · rcases lbE k hk with h1 | rfl | h1
    · exact h.out k h1
    · by_cases h0 : g.own w.heap.size = 0
      · exact h0
      · have := h.mem.olt _ h0; omega
    · exact (hnew k h1).1

end Go.Proofs.Ytmdlebolmhnhaaa
