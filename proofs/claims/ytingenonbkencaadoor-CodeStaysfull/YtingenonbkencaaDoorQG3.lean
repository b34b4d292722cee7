import Derived.Test.YtingenonbkencaaDoorQG1
namespace Go.Proofs.YtingenonbkencaaDoor
open Go.RowKit (wrap32 wrap64)
set_option linter.unusedVariables false
set_option linter.unusedSimpArgs false
def funcCells : List HD → List Value → List Value
  | h :: r, c :: cs => [vI h.P, vI h.R, vI h.V, c] ++ funcCells r cs
  | _, _ => []
theorem funcCells_length : ∀ (l : List HD) (cs : List Value), cs.length = l.length → (funcCells l cs).length = l.length * 4
  | [], cs, h => by cases cs with | nil => rfl | cons a b => simp at h
  | x :: r, [], h => by simp at h
  | x :: r, c :: cs, h => by
    simp only [funcCells, List.length_append, List.length_cons, List.length_nil]
    rw [funcCells_length r cs (by simpa using h)]
    omega
theorem funcCells_nil : ∀ (l : List HD), funcCells l (List.replicate l.length nilS) = l.flatMap (fun h => [vI h.P, vI h.R, vI h.V, .slice none 0 0])
  | [] => rfl
  | h :: r => by
    simp only [List.length_cons, List.replicate_succ, funcCells, List.flatMap_cons]
    rw [funcCells_nil r]
    rfl
theorem funcCells_at : ∀ (l : List HD) (cs : List Value) (j : Nat) (hj : j < l.length) (hc : cs.length = l.length),
    (funcCells l cs)[j * 4]? = some (vI l[j].P) ∧ (funcCells l cs)[j * 4 + 1]? = some (vI l[j].R) ∧ (funcCells l cs)[j * 4 + 2]? = some (vI l[j].V) ∧ (funcCells l cs)[j * 4 + 3]? = cs[j]?
  | x :: r, [], j, hj, hc => by simp at hc
  | x :: r, c :: cs, 0, _, _ => by simp [funcCells]
  | x :: r, c :: cs, j + 1, hj, hc => by
    have ih := funcCells_at r cs j (by simpa using hj) (by simpa using hc)
    simp only [funcCells, List.getElem_cons_succ, List.getElem?_cons_succ]
    have e : ∀ m, ([vI x.P, vI x.R, vI x.V, c] ++ funcCells r cs)[(j + 1) * 4 + m]? = (funcCells r cs)[j * 4 + m]? := by
      intro m
      rw [List.getElem?_append_right (by simp; omega)]
      congr 1
      simp only [List.length_cons, List.length_nil]
      omega
    have e0 := e 0
    simp only [Nat.add_zero] at e0
    rw [e0, e 1, e 2, e 3]
    exact ih
theorem funcCells_set : ∀ (l : List HD) (cs : List Value) (j : Nat) (v : Value) (tl : List Value), j < l.length → cs.length = l.length →
    (funcCells l cs ++ tl).set (j * 4 + 3) v = funcCells l (cs.set j v) ++ tl
  | x :: r, [], j, v, tl, hj, hc => by simp at hc
  | x :: r, c :: cs, 0, v, tl, _, _ => by simp [funcCells]
  | x :: r, c :: cs, j + 1, v, tl, hj, hc => by
    have ih := funcCells_set r cs j v tl (by simpa using hj) (by simpa using hc)
    simp only [funcCells, List.set_cons_succ]
    rw [List.append_assoc, List.set_append, if_neg (by simp; omega)]
    simp only [List.length_cons, List.length_nil]
    rw [show (j + 1) * 4 + 3 - (0 + 1 + 1 + 1 + 1) = j * 4 + 3 by omega, ih, List.append_assoc]
def funcsX {b : Nat} (M : Mode b) (heads : List (Nat × Nat)) : List HD → WS × M.σ → X (List (List AI) × (WS × M.σ))
  | [], x => .ok ([], x)
  | h :: r, x => match codeX M heads h.R.toNat h.len.toNat h.len.toNat ({ x.1 with fP := h.P, fR := (h.R.toNat : Nat), fV := h.V, fC := .slice none 0 0, len := (h.len.toNat : Nat) }, x.2) with
    | .error z => .error z
    | .ok (l, y) => match funcsX M heads r y with
      | .error z => .error z
      | .ok (ls, y') => .ok (l :: ls, y')
def contF {α : Type} (done : List (List AI)) : X (List (List AI) × α) → X (List (List AI) × α)
  | .ok (vs, y) => .ok (done ++ vs, y)
  | .error z => .error z
theorem contF_nil {α : Type} (r : X (List (List AI) × α)) : contF [] r = r := by cases r <;> simp [contF]
theorem contF_cons {b : Nat} (M : Mode b) (heads : List (Nat × Nat)) (done : List (List AI)) (h : HD) (r : List HD) (x y : WS × M.σ) (l : List AI)
    (hc : codeX M heads h.R.toNat h.len.toNat h.len.toNat ({ x.1 with fP := h.P, fR := (h.R.toNat : Nat), fV := h.V, fC := .slice none 0 0, len := (h.len.toNat : Nat) }, x.2) = .ok (l, y)) :
    contF done (funcsX M heads (h :: r) x) = contF (done ++ [l]) (funcsX M heads r y) := by
  simp only [funcsX, hc]
  cases funcsX M heads r y with
  | error z => rfl
  | ok p => simp [contF]
structure KeptF (s s' : WS) : Prop where
  num : s'.num = s.num
  globals : s'.globals = s.globals
  funcs : s'.funcs = s.funcs
theorem codeX_kept {b : Nat} {M : Mode b} {heads : List (Nat × Nat)} {fR len : Nat} : ∀ {m : Nat} {x : WS × M.σ} {l : List AI} {y : WS × M.σ}, codeX M heads fR len m x = .ok (l, y) → Kept2 x.1 y.1
  | 0, _, _, _, h => by simp only [codeX, Except.ok.injEq, Prod.mk.injEq] at h; rw [← h.2]; exact Kept2.refl _
  | m + 1, x, l, y, h => by
    simp only [codeX] at h
    split at h
    · cases h
    · rename_i ll y1 h1
      split at h
      · cases h
      · rename_i l' y' h2
        simp only [Except.ok.injEq, Prod.mk.injEq] at h
        rw [← h.2]
        exact ((show Kept2 x.1 (blank x.1) from ⟨rfl, rfl, rfl, rfl, rfl, rfl, rfl, rfl⟩).trans (instrX_kept h1)).trans (codeX_kept h2)
theorem codeX_length {b : Nat} {M : Mode b} {heads : List (Nat × Nat)} {fR len : Nat} : ∀ {m : Nat} {x : WS × M.σ} {l : List AI} {y : WS × M.σ}, codeX M heads fR len m x = .ok (l, y) → l.length = m
  | 0, _, _, _, h => by simp only [codeX, Except.ok.injEq, Prod.mk.injEq] at h; rw [← h.1]; rfl
  | m + 1, x, l, y, h => by
    simp only [codeX] at h
    split at h
    · cases h
    · split at h
      · cases h
      · rename_i l' y' h2
        simp only [Except.ok.injEq, Prod.mk.injEq] at h
        rw [← h.1, List.length_cons, codeX_length h2]
theorem codeX_blank {b : Nat} {M : Mode b} (heads : List (Nat × Nat)) (fR len m : Nat) (x x' : WS × M.σ) (hm : 0 < m) (h1 : blank x.1 = blank x'.1) (h2 : x.2 = x'.2) : codeX M heads fR len m x = codeX M heads fR len m x' := by
  cases m with
  | zero => exact absurd hm (Nat.lt_irrefl 0)
  | succ m =>
    simp only [codeX]
    rw [h1, h2]
def headsOf (l : List HD) : List (Nat × Nat) := l.map (fun h => (h.P.toNat, h.R.toNat))
theorem headsAt_of {w : World} {g : Nat} {l : List HD} {cs tl : List Value} {e : TypeId} (hb : w.heap[g]? = some (.cells (funcCells l cs ++ tl).toArray e)) (hc : cs.length = l.length)
    (hf : ∀ h ∈ l, (0 ≤ h.P ∧ h.P ≤ 8) ∧ (0 ≤ h.R ∧ h.R ≤ 4)) : HeadsAt w g 0 (headsOf l) := by
  intro j hj
  have hj' : j < l.length := by simpa [headsOf] using hj
  have hfl := funcCells_length l cs hc
  have hat := funcCells_at l cs j hj' hc
  have hfj := hf l[j] (List.getElem_mem hj')
  have e1 : (headsOf l)[j] = (l[j].P.toNat, l[j].R.toNat) := by simp [headsOf]
  have cell : ∀ o, o < (funcCells l cs).length → w.cell? ⟨g, 0 + o, none⟩ = (funcCells l cs)[o]? := by
    intro o ho
    unfold World.cell?
    simp only [hb, Nat.zero_add, Option.isSome_none, Bool.false_eq_true, if_false, List.getElem?_toArray]
    rw [List.getElem?_append_left ho]
  rw [e1]
  refine ⟨?_, ?_, ?_, ?_⟩
  · rw [cell _ (by omega), hat.1]
    simp only [Option.some.injEq, Value.int.injEq, true_and]
    omega
  · rw [Nat.add_assoc, cell _ (by omega), hat.2.1]
    simp only [Option.some.injEq, Value.int.injEq, true_and]
    omega
  · simp only; omega
  · simp only; omega
def CodesAt (w0 w : World) : List (List AI) → List Value → Prop
  | [], _ => True
  | l :: ls, c :: cs => (∃ gc cells, w0.heap.size ≤ gc ∧ c = .slice (some ⟨gc, 0, none⟩) l.length l.length ∧ w.heap[gc]? = some (.cells cells.toArray 71) ∧ CodeCells w0 w l cells) ∧ CodesAt w0 w ls cs
  | _ :: _, [] => False
theorem CodesAt.fr {S : Nat → Prop} {w0 w w' : World} (f : Fr S w w') (hS : ∀ k, w0.heap.size ≤ k → k < w.heap.size → ¬ S k) : ∀ {ls : List (List AI)} {cs : List Value}, CodesAt w0 w ls cs → CodesAt w0 w' ls cs
  | [], _, h => h
  | _ :: _, [], h => h
  | l :: ls, c :: cs, ⟨⟨gc, cells, h1, h2, h3, h4⟩, h⟩ => by
    have hlt : gc < w.heap.size := (Array.getElem?_eq_some_iff.1 h3).1
    exact ⟨⟨gc, cells, h1, h2, by rw [f.block gc hlt (hS gc h1 hlt)]; exact h3, h4.fr f hS⟩, CodesAt.fr f hS h⟩
theorem CodesAt.snoc {w0 w : World} (l : List AI) (v : Value) (hv : ∃ gc cells, w0.heap.size ≤ gc ∧ v = .slice (some ⟨gc, 0, none⟩) l.length l.length ∧ w.heap[gc]? = some (.cells cells.toArray 71) ∧ CodeCells w0 w l cells) :
    ∀ {ls : List (List AI)} {cs : List Value}, ls.length < cs.length → CodesAt w0 w ls cs → CodesAt w0 w (ls ++ [l]) (cs.set ls.length v)
  | [], [], hl, _ => by simp at hl
  | [], c :: cs, _, _ => ⟨hv, trivial⟩
  | x :: ls, [], hl, _ => by simp at hl
  | x :: ls, c :: cs, hl, ⟨h1, h2⟩ => by
    simp only [List.cons_append, List.length_cons, List.set_cons_succ]
    exact ⟨h1, CodesAt.snoc l v hv (by simpa using hl) h2⟩
end Go.Proofs.YtingenonbkencaaDoor
