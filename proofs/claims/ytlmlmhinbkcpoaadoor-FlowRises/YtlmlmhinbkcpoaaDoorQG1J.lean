import Derived.Test.YtlmlmhinbkcpoaaDoorQF1J
import Derived.Test.YtlmlmhinbkcpoaaDoorQE6J
namespace Go.Proofs.YtlmlmhinbkcpoaaDoor
open Go.RowKit (wrap32 wrap64)
set_option linter.unusedVariables false
set_option linter.unusedSimpArgs false

/-- A head as it was read. -/
structure HD where
  P : Int
  R : Int
  V : Int
  len : Int

def hdOf (s : WS) : HD := ⟨s.fP, s.fR, s.fV, s.len⟩

def headsX {b : Nat} (M : Mode b) : Nat → WS × M.σ → X (List HD × (WS × M.σ))
  | 0, x => .ok ([], x)
  | m + 1, x => match headX M x with
    | .error z => .error z
    | .ok y => match headsX M m y with
      | .error z => .error z
      | .ok (l, y') => .ok (hdOf y.1 :: l, y')

def contH {α : Type} (done : List HD) : X (List HD × α) → X (List HD × α)
  | .ok (vs, y) => .ok (done ++ vs, y)
  | .error z => .error z

theorem contH_nil {α : Type} (r : X (List HD × α)) : contH [] r = r := by cases r <;> simp [contH]

theorem contH_cons {b : Nat} (M : Mode b) (m : Nat) (done : List HD) (x y : WS × M.σ) (h : headX M x = .ok y) :
    contH done (headsX M (m + 1) x) = contH (done ++ [hdOf y.1]) (headsX M m y) := by
  simp only [headsX, h]
  cases headsX M m y with
  | error z => rfl
  | ok p => simp [contH]

/-- What heads leave as it was, and what they have been asked. -/
structure KeptH (s s' : WS) : Prop where
  num : s'.num = s.num
  globals : s'.globals = s.globals
  funcs : s'.funcs = s.funcs
  fC : s'.fC = s.fC
  args : s'.args = s.args
  rets : s'.rets = s.rets
  count : s'.count = s.count

theorem KeptH.refl (s : WS) : KeptH s s := ⟨rfl, rfl, rfl, rfl, rfl, rfl, rfl⟩
theorem KeptH.trans {a b c : WS} (h : KeptH a b) (k : KeptH b c) : KeptH a c :=
  ⟨k.num.trans h.num, k.globals.trans h.globals, k.funcs.trans h.funcs, k.fC.trans h.fC, k.args.trans h.args, k.rets.trans h.rets, k.count.trans h.count⟩

theorem nextX_keptH {b : Nat} {M : Mode b} {o size : Nat} {x y : WS × M.σ} (ho : o = 149 ∨ o = 150 ∨ o = 151 ∨ o = 153) (h : nextX M o size x = .ok y) : KeptH x.1 y.1 := by
  obtain ⟨v, st, rfl⟩ := nextX_num h
  rcases ho with rfl | rfl | rfl | rfl <;> exact ⟨rfl, rfl, rfl, rfl, rfl, rfl, rfl⟩

theorem headOk_ok {s : WS} {p : Int} {u : Unit} (h : headOk s p = .ok u) : (0 ≤ s.fV ∧ s.fV ≤ 255) ∧ (0 ≤ s.fP ∧ s.fP ≤ (if s.fV < 8 then s.fV else 8)) ∧ (0 ≤ s.fR ∧ s.fR ≤ 4) ∧ s.len ≤ 4096 ∧ 0 < s.len := by
  unfold headOk at h
  by_cases a1 : 0 ≤ s.fV ∧ s.fV ≤ 255
  · rw [if_neg (Decidable.not_not.2 a1)] at h
    by_cases a2 : 0 ≤ s.fP ∧ s.fP ≤ (if s.fV < 8 then s.fV else 8)
    · rw [if_neg (Decidable.not_not.2 a2)] at h
      by_cases a3 : 0 ≤ s.fR ∧ s.fR ≤ 4
      · rw [if_neg (Decidable.not_not.2 a3)] at h
        by_cases a4 : s.len ≤ 4096
        · rw [if_neg (Decidable.not_not.2 a4)] at h
          by_cases a5 : 0 < s.len
          · exact ⟨a1, a2, a3, a4, a5⟩
          · rw [if_pos a5] at h; cases h
        · rw [if_pos a4] at h; cases h
      · rw [if_pos a3] at h; cases h
    · rw [if_pos a2] at h; cases h
  · rw [if_pos a1] at h; cases h

theorem headX_ok {b : Nat} {M : Mode b} {x y : WS × M.σ} (h : headX M x = .ok y) : KeptH x.1 y.1 ∧ (0 ≤ y.1.fV ∧ y.1.fV ≤ 255) ∧ (0 ≤ y.1.fP ∧ y.1.fP ≤ 8) ∧ (0 ≤ y.1.fR ∧ y.1.fR ≤ 4) ∧ 0 < y.1.len ∧ y.1.len ≤ 4096 := by
  simp only [headX, bind, Except.bind] at h
  split at h
  · cases h
  · rename_i y1 h1
    split at h
    · cases h
    · rename_i y2 h2
      split at h
      · cases h
      · rename_i y3 h3
        split at h
        · cases h
        · rename_i y4 h4
          split at h
          · cases h
          · rename_i u h5
            have k := (((nextX_keptH (by simp) h1).trans (nextX_keptH (by simp) h2)).trans (nextX_keptH (by simp) h3)).trans (nextX_keptH (by simp) h4)
            unfold locX at h
            split at h
            · cases h
              have a := headOk_ok h5
              refine ⟨⟨k.num, k.globals, k.funcs, k.fC, k.args, k.rets, k.count⟩, a.1, ?_, a.2.2.1, a.2.2.2.2, a.2.2.2.1⟩
              have e : (if y4.1.fV < 8 then y4.1.fV else 8) ≤ 8 := by split <;> omega
              exact ⟨a.2.1.1, Int.le_trans a.2.1.2 e⟩
            · cases h

/-- Blocks of two kinds of elements are two. -/
theorem rows_apart {w : World} {B e1 e2 s1 s2 n1 n2 : Nat} {v1 v2 : Value} {x1 x2 : List Value} (h1 : w.ownsRow B e1 s1 v1 n1 x1) (h2 : w.ownsRow B e2 s2 v2 n2 x2) (he : e1 ≠ e2) : v1.ownBlock = none ∨ v1.ownBlock ≠ v2.ownBlock := by
  rcases h1.2 with ⟨rfl, -⟩ | ⟨g1, c1, cur1, rfl, -, hb1, -⟩
  · exact Or.inl rfl
  · rcases h2.2 with ⟨rfl, -⟩ | ⟨g2, c2, cur2, rfl, -, hb2, -⟩
    · exact Or.inr (by simp [Value.ownBlock])
    · refine Or.inr (fun e => he ?_)
      simp only [Value.ownBlock, Option.some.injEq] at e
      subst e
      rw [hb1] at hb2
      cases hb2
      rfl

theorem grown_fr {w w' : World} {row : Option Nat} (h : w.grownBy w' row) : Fr (fun k => row = some k) w w' :=
  ⟨h.os, h.tape, h.output, h.size, fun k hk hS => h.block k hk (fun e => hS e.symm)⟩
end Go.Proofs.YtlmlmhinbkcpoaaDoor

namespace Go.Proofs.YtlmlmhinbkcpoaaDoor
open Go.RowKit (wrap32 wrap64)
set_option linter.unusedVariables false
set_option linter.unusedSimpArgs false

/-- Functions, a cell a field: heads with their codes' slices. -/
def funcCells : List HD → List Value → List Value
  | h :: r, c :: cs => [vI h.P, vI h.R, vI h.V, c] ++ funcCells r cs
  | _, _ => []

theorem funcCells_length : ∀ (l : List HD) (cs : List Value), cs.length = l.length → (funcCells l cs).length = l.length * 4
  | [], cs, h => by cases cs with | nil => rfl | cons a b => simp at h
  | x :: r, [], h => by simp at h
  | x :: r, c :: cs, h => by
    simp only [funcCells, List.length_append, List.length_cons, List.length_nil]
    rw [funcCells_length r cs (by simpa using h)]
    omega

theorem funcCells_nil : ∀ (l : List HD), funcCells l (List.replicate l.length nilS) = l.flatMap (fun h => [vI h.P, vI h.R, vI h.V, .slice none 0 0])
  | [] => rfl
  | h :: r => by
    simp only [List.length_cons, List.replicate_succ, funcCells, List.flatMap_cons]
    rw [funcCells_nil r]
    rfl

theorem funcCells_at : ∀ (l : List HD) (cs : List Value) (j : Nat) (hj : j < l.length) (hc : cs.length = l.length),
    (funcCells l cs)[j * 4]? = some (vI l[j].P) ∧ (funcCells l cs)[j * 4 + 1]? = some (vI l[j].R) ∧ (funcCells l cs)[j * 4 + 2]? = some (vI l[j].V) ∧ (funcCells l cs)[j * 4 + 3]? = cs[j]?
  | x :: r, [], j, hj, hc => by simp at hc
  | x :: r, c :: cs, 0, _, _ => by simp [funcCells]
  | x :: r, c :: cs, j + 1, hj, hc => by
    have ih := funcCells_at r cs j (by simpa using hj) (by simpa using hc)
    simp only [funcCells, List.getElem_cons_succ, List.getElem?_cons_succ]
    have e : ∀ m, ([vI x.P, vI x.R, vI x.V, c] ++ funcCells r cs)[(j + 1) * 4 + m]? = (funcCells r cs)[j * 4 + m]? := by
      intro m
      rw [List.getElem?_append_right (by simp; omega)]
      congr 1
      simp only [List.length_cons, List.length_nil]
      omega
    have e0 := e 0
    simp only [Nat.add_zero] at e0
    rw [e0, e 1, e 2, e 3]
    exact ih

theorem funcCells_set : ∀ (l : List HD) (cs : List Value) (j : Nat) (v : Value) (tl : List Value), j < l.length → cs.length = l.length →
    (funcCells l cs ++ tl).set (j * 4 + 3) v = funcCells l (cs.set j v) ++ tl
  | x :: r, [], j, v, tl, hj, hc => by simp at hc
  | x :: r, c :: cs, 0, v, tl, _, _ => by simp [funcCells]
  | x :: r, c :: cs, j + 1, v, tl, hj, hc => by
    have ih := funcCells_set r cs j v tl (by simpa using hj) (by simpa using hc)
    simp only [funcCells, List.set_cons_succ]
    rw [List.append_assoc, List.set_append, if_neg (by simp; omega)]
    simp only [List.length_cons, List.length_nil]
    rw [show (j + 1) * 4 + 3 - (0 + 1 + 1 + 1 + 1) = j * 4 + 3 by omega, ih, List.append_assoc]

/-- The codes of all functions, one behind the other. -/
def funcsX {b : Nat} (M : Mode b) (heads : List (Nat × Nat)) : List HD → WS × M.σ → X (List (List AI) × (WS × M.σ))
  | [], x => .ok ([], x)
  | h :: r, x => match codeX M heads h.R.toNat h.len.toNat h.len.toNat ({ x.1 with fP := h.P, fR := (h.R.toNat : Nat), fV := h.V, fC := .slice none 0 0, len := (h.len.toNat : Nat) }, x.2) with
    | .error z => .error z
    | .ok (l, y) => match funcsX M heads r y with
      | .error z => .error z
      | .ok (ls, y') => .ok (l :: ls, y')

def contF {α : Type} (done : List (List AI)) : X (List (List AI) × α) → X (List (List AI) × α)
  | .ok (vs, y) => .ok (done ++ vs, y)
  | .error z => .error z

theorem contF_nil {α : Type} (r : X (List (List AI) × α)) : contF [] r = r := by cases r <;> simp [contF]

theorem contF_cons {b : Nat} (M : Mode b) (heads : List (Nat × Nat)) (done : List (List AI)) (h : HD) (r : List HD) (x y : WS × M.σ) (l : List AI)
    (hc : codeX M heads h.R.toNat h.len.toNat h.len.toNat ({ x.1 with fP := h.P, fR := (h.R.toNat : Nat), fV := h.V, fC := .slice none 0 0, len := (h.len.toNat : Nat) }, x.2) = .ok (l, y)) :
    contF done (funcsX M heads (h :: r) x) = contF (done ++ [l]) (funcsX M heads r y) := by
  simp only [funcsX, hc]
  cases funcsX M heads r y with
  | error z => rfl
  | ok p => simp [contF]

/-- What codes leave as it was. -/
structure KeptF (s s' : WS) : Prop where
  num : s'.num = s.num
  globals : s'.globals = s.globals
  funcs : s'.funcs = s.funcs

theorem codeX_kept {b : Nat} {M : Mode b} {heads : List (Nat × Nat)} {fR len : Nat} : ∀ {m : Nat} {x : WS × M.σ} {l : List AI} {y : WS × M.σ}, codeX M heads fR len m x = .ok (l, y) → Kept2 x.1 y.1
  | 0, _, _, _, h => by simp only [codeX, Except.ok.injEq, Prod.mk.injEq] at h; rw [← h.2]; exact Kept2.refl _
  | m + 1, x, l, y, h => by
    simp only [codeX] at h
    split at h
    · cases h
    · rename_i ll y1 h1
      split at h
      · cases h
      · rename_i l' y' h2
        simp only [Except.ok.injEq, Prod.mk.injEq] at h
        rw [← h.2]
        exact ((show Kept2 x.1 (blank x.1) from ⟨rfl, rfl, rfl, rfl, rfl, rfl, rfl, rfl⟩).trans (instrX_kept h1)).trans (codeX_kept h2)

theorem codeX_length {b : Nat} {M : Mode b} {heads : List (Nat × Nat)} {fR len : Nat} : ∀ {m : Nat} {x : WS × M.σ} {l : List AI} {y : WS × M.σ}, codeX M heads fR len m x = .ok (l, y) → l.length = m
  | 0, _, _, _, h => by simp only [codeX, Except.ok.injEq, Prod.mk.injEq] at h; rw [← h.1]; rfl
  | m + 1, x, l, y, h => by
    simp only [codeX] at h
    split at h
    · cases h
    · split at h
      · cases h
      · rename_i l' y' h2
        simp only [Except.ok.injEq, Prod.mk.injEq] at h
        rw [← h.1, List.length_cons, codeX_length h2]

theorem codeX_blank {b : Nat} {M : Mode b} (heads : List (Nat × Nat)) (fR len m : Nat) (x x' : WS × M.σ) (hm : 0 < m) (h1 : blank x.1 = blank x'.1) (h2 : x.2 = x'.2) : codeX M heads fR len m x = codeX M heads fR len m x' := by
  cases m with
  | zero => exact absurd hm (Nat.lt_irrefl 0)
  | succ m =>
    simp only [codeX]
    rw [h1, h2]

def headsOf (l : List HD) : List (Nat × Nat) := l.map (fun h => (h.P.toNat, h.R.toNat))

theorem headsAt_of {w : World} {g : Nat} {l : List HD} {cs tl : List Value} {e : TypeId} (hb : w.heap[g]? = some (.cells (funcCells l cs ++ tl).toArray e)) (hc : cs.length = l.length)
    (hf : ∀ h ∈ l, (0 ≤ h.P ∧ h.P ≤ 8) ∧ (0 ≤ h.R ∧ h.R ≤ 4)) : HeadsAt w g 0 (headsOf l) := by
  intro j hj
  have hj' : j < l.length := by simpa [headsOf] using hj
  have hfl := funcCells_length l cs hc
  have hat := funcCells_at l cs j hj' hc
  have hfj := hf l[j] (List.getElem_mem hj')
  have e1 : (headsOf l)[j] = (l[j].P.toNat, l[j].R.toNat) := by simp [headsOf]
  have cell : ∀ o, o < (funcCells l cs).length → w.cell? ⟨g, 0 + o, none⟩ = (funcCells l cs)[o]? := by
    intro o ho
    unfold World.cell?
    simp only [hb, Nat.zero_add, Option.isSome_none, Bool.false_eq_true, if_false, List.getElem?_toArray]
    rw [List.getElem?_append_left ho]
  rw [e1]
  refine ⟨?_, ?_, ?_, ?_⟩
  · rw [cell _ (by omega), hat.1]
    simp only [Option.some.injEq, Value.int.injEq, true_and]
    omega
  · rw [Nat.add_assoc, cell _ (by omega), hat.2.1]
    simp only [Option.some.injEq, Value.int.injEq, true_and]
    omega
  · simp only; omega
  · simp only; omega

/-- The codes of the first functions lie each in a row of its own. -/
def CodesAt (w0 w : World) : List (List AI) → List Value → Prop
  | [], _ => True
  | l :: ls, c :: cs => (∃ gc cells, w0.heap.size ≤ gc ∧ c = .slice (some ⟨gc, 0, none⟩) l.length l.length ∧ w.heap[gc]? = some (.cells cells.toArray 57) ∧ CodeCells w0 w l cells) ∧ CodesAt w0 w ls cs
  | _ :: _, [] => False

theorem CodesAt.fr {S : Nat → Prop} {w0 w w' : World} (f : Fr S w w') (hS : ∀ k, w0.heap.size ≤ k → k < w.heap.size → ¬ S k) : ∀ {ls : List (List AI)} {cs : List Value}, CodesAt w0 w ls cs → CodesAt w0 w' ls cs
  | [], _, h => h
  | _ :: _, [], h => h
  | l :: ls, c :: cs, ⟨⟨gc, cells, h1, h2, h3, h4⟩, h⟩ => by
    have hlt : gc < w.heap.size := (Array.getElem?_eq_some_iff.1 h3).1
    exact ⟨⟨gc, cells, h1, h2, by rw [f.block gc hlt (hS gc h1 hlt)]; exact h3, h4.fr f hS⟩, CodesAt.fr f hS h⟩

theorem CodesAt.snoc {w0 w : World} (l : List AI) (v : Value) (hv : ∃ gc cells, w0.heap.size ≤ gc ∧ v = .slice (some ⟨gc, 0, none⟩) l.length l.length ∧ w.heap[gc]? = some (.cells cells.toArray 57) ∧ CodeCells w0 w l cells) :
    ∀ {ls : List (List AI)} {cs : List Value}, ls.length < cs.length → CodesAt w0 w ls cs → CodesAt w0 w (ls ++ [l]) (cs.set ls.length v)
  | [], [], hl, _ => by simp at hl
  | [], c :: cs, _, _ => ⟨hv, trivial⟩
  | x :: ls, [], hl, _ => by simp at hl
  | x :: ls, c :: cs, hl, ⟨h1, h2⟩ => by
    simp only [List.cons_append, List.length_cons, List.set_cons_succ]
    exact ⟨h1, CodesAt.snoc l v hv (by simpa using hl) h2⟩
end Go.Proofs.YtlmlmhinbkcpoaaDoor

namespace Go.Proofs.YtlmlmhinbkcpoaaDoor
open Go.RowKit (wrap32 wrap64)
set_option linter.unusedVariables false
set_option linter.unusedSimpArgs false

/-- A walk without its addresses. -/
def WS.bare (s : WS) : WS := { s with num := nilS, funcs := nilS, fC := nilS, args := nilS, rets := nilS }


theorem bind_thenX {α β : Type} (c : X α) (p : α → X β) : (c >>= p) = thenX c p := by cases c <;> rfl

theorem headX_then {b : Nat} (M : Mode b) (x : WS × M.σ) : headX M x = thenX (nextX M 149 1 x) fun y1 => thenX (nextX M 150 1 y1) fun y2 => thenX (nextX M 151 1 y2) fun y3 => thenX (nextX M 153 2 y3) fun y4 =>
    thenX (headOk y4.1 x.1.at') fun _ => locX M y4.1.fV x.1.at' y4 := by
  unfold headX; simp only [bind_thenX]

theorem cells_funcs (s : WS) (v : Value) : s.cells.setIfInBounds 147 v = { s with funcs := v }.cells := by kernel_rfl

end Go.Proofs.YtlmlmhinbkcpoaaDoor
