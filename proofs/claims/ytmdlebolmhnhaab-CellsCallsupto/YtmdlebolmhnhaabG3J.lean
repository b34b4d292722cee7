import Derived.Test.YtmdlebolmhnhaabV8J
import Derived.Test.YtmdlebolmhnhaabB5J
namespace Go.Proofs.Ytmdlebolmhnhaab
open Go.RowKit (wrap32 wrap64)
open Go.Maps (Keyed)
set_option linter.unusedVariables false
set_option linter.unusedSimpArgs false

theorem IntsAt.of_row {w : World} {B : Nat} {v : Value} {zs : List Int} (h : w.ownsRow B 3 1 v zs.length (zs.map vI)) : IntsAt w.heap.size w v zs := by
  obtain ⟨h1, h2⟩ := h
  rcases h2 with ⟨rfl, h3⟩ | ⟨g, cap, cur, rfl, h3, h4, h5, h6, h7, h8⟩
  · exact Or.inl ⟨none, 0, rfl, List.length_eq_zero_iff.1 h3⟩
  · refine Or.inr ⟨g, 0, cap, rfl, heap_lt h4, fun j hj => ?_⟩
    have e : cur[j]? = some (vI (zs[j]?.getD 0)) := by
      have e1 : (cur.toList.take (zs.length * 1))[j]? = cur.toList[j]? := by rw [List.getElem?_take]; simp [hj]
      rw [← Array.getElem?_toList, ← e1, h8, List.getElem?_map, List.getElem?_eq_getElem hj]
      rfl
    rw [Nat.zero_add, cell_of h4]
    exact e

/-- A list of lists of its own: all of its blocks are such as P says. -/
def RowsL (w : World) (B : Nat) (v : Value) (zss : List (List Int)) (P : Nat → Prop) : Prop :=
  ∃ vs : List Value, w.ownsRow B 29 1 v zss.length vs ∧ (∀ j, v.ownBlock = some j → P j) ∧
    ∀ (i : Nat) (u : Value), vs[i]? = some u → ∃ zs : List Int, zss[i]? = some zs ∧ w.ownsRow B 3 1 u zs.length (zs.map vI) ∧ ∀ j, u.ownBlock = some j → P j

theorem RowsL.nil (w : World) (B : Nat) (P : Nat → Prop) : RowsL w B (.slice none 0 0) [] P :=
  ⟨[], World.ownsRow_nil _ _ _ _, fun j e => (by cases e), fun i u h => (by simp at h)⟩

theorem RowsL.fr {w w' : World} {B : Nat} {v : Value} {zss : List (List Int)} {P S : Nat → Prop} (h : RowsL w B v zss P) (f : Fr S w w') (hS : ∀ j, P j → ¬ S j) : RowsL w' B v zss P := by
  obtain ⟨vs, h1, h2, h3⟩ := h
  refine ⟨vs, ownsRow_fr h1 f (fun j e => hS j (h2 j e)), h2, fun i u hu => ?_⟩
  obtain ⟨zs, k1, k2, k3⟩ := h3 i u hu
  exact ⟨zs, k1, ownsRow_fr k2 f (fun j e => hS j (k3 j e)), k3⟩

theorem RowsL.mono {w : World} {B : Nat} {v : Value} {zss : List (List Int)} {P Q : Nat → Prop} (h : RowsL w B v zss P) (hPQ : ∀ j, j < w.heap.size → P j → Q j) : RowsL w B v zss Q := by
  obtain ⟨vs, h1, h2, h3⟩ := h
  refine ⟨vs, h1, fun j e => hPQ j (World.ownsRow.lt h1 j e).2 (h2 j e), fun i u hu => ?_⟩
  obtain ⟨zs, k1, k2, k3⟩ := h3 i u hu
  exact ⟨zs, k1, k2, fun j e => hPQ j (World.ownsRow.lt k2 j e).2 (k3 j e)⟩

theorem RowsL.lists {w : World} {B : Nat} {v : Value} {zss : List (List Int)} {P : Nat → Prop} (h : RowsL w B v zss P) : ListsAt w v zss := by
  obtain ⟨vs, ⟨h0, h1⟩, h2, h3⟩ := h
  rcases h1 with ⟨rfl, hn⟩ | ⟨g, cap, cur, rfl, k1, k2, k3, k4, k5, k6⟩
  · have := List.length_eq_zero_iff.1 hn
    subst this
    exact ⟨none, 0, rfl, fun h => absurd rfl h⟩
  · refine ⟨_, _, rfl, fun _ => ⟨g, 0, rfl, fun j hj => ?_⟩⟩
    have hjv : j < vs.length := by omega
    obtain ⟨zs, q1, q2, -⟩ := h3 j vs[j] (List.getElem?_eq_getElem hjv)
    refine ⟨vs[j], ?_, ?_⟩
    · rw [Nat.zero_add, cell_of k2]
      have e1 : (cur.toList.take (zss.length * 1))[j]? = cur.toList[j]? := by rw [List.getElem?_take]; simp [hj]
      rw [← Array.getElem?_toList, ← e1, k6, List.getElem?_eq_getElem hjv]
    · rw [q1]
      exact IntsAt.of_row q2

/-- One of its lists. -/
theorem RowsL.at {w : World} {B : Nat} {v : Value} {zss : List (List Int)} {P : Nat → Prop} (h : RowsL w B v zss P) {i : Nat} {zs : List Int} (hi : zss[i]? = some zs) :
    ∃ k cap u, v = .slice (some ⟨k, 0, none⟩) zss.length cap ∧ w.cell? ⟨k, i, none⟩ = some u ∧ w.ownsRow B 3 1 u zs.length (zs.map vI) ∧ ∀ j, u.ownBlock = some j → P j := by
  obtain ⟨vs, ⟨h0, h1⟩, h2, h3⟩ := h
  have hil : i < zss.length := (List.getElem?_eq_some_iff.1 hi).1
  rcases h1 with ⟨rfl, hn⟩ | ⟨g, cap, cur, rfl, k1, k2, k3, k4, k5, k6⟩
  · omega
  · have hjv : i < vs.length := by omega
    obtain ⟨zs', q1, q2, q3⟩ := h3 i vs[i] (List.getElem?_eq_getElem hjv)
    rw [hi] at q1
    cases q1
    refine ⟨g, cap, vs[i], rfl, ?_, q2, q3⟩
    rw [cell_of k2]
    have e1 : (cur.toList.take (zss.length * 1))[i]? = cur.toList[i]? := by rw [List.getElem?_take]; simp [hil]
    rw [← Array.getElem?_toList, ← e1, k6, List.getElem?_eq_getElem hjv]

/-- A row of lists and a row of numbers lie in two blocks. -/
theorem rows_apart {w : World} {B B' : Nat} {v u : Value} {n m : Nat} {xs ys : List Value} (h : w.ownsRow B 29 1 v n xs) (k : w.ownsRow B' 3 1 u m ys) : ∀ j, u.ownBlock = some j → v.ownBlock ≠ some j := by
  intro j hu hv
  rcases h.2 with ⟨rfl, -⟩ | ⟨g, cap, cur, rfl, -, h2, -⟩
  · cases hv
  · rcases k.2 with ⟨rfl, -⟩ | ⟨g', cap', cur', rfl, -, k2, -⟩
    · cases hu
    · cases hv
      cases hu
      rw [h2] at k2
      cases k2

/-- It has grown by one. -/
theorem RowsL.grow {w w6 : World} {B : Nat} {v v6 u : Value} {zss : List (List Int)} {zs : List Int} {P : Nat → Prop} {vs : List Value} (h1 : w.ownsRow B 29 1 v zss.length vs) (h3 : ∀ (i : Nat) (u : Value), vs[i]? = some u → ∃ zs : List Int, zss[i]? = some zs ∧ w.ownsRow B 3 1 u zs.length (zs.map vI) ∧ ∀ j, u.ownBlock = some j → P j)
    (hu : w.ownsRow B 3 1 u zs.length (zs.map vI)) (hP : ∀ j, u.ownBlock = some j → P j) (hown : w6.ownsRow B 29 1 v6 (zss.length + 1) (vs ++ [u])) (hf : Fr (fun j => v.ownBlock = some j) w w6) (hP6 : ∀ j, v6.ownBlock = some j → P j) :
    RowsL w6 B v6 (zss ++ [zs]) P := by
  have hl : vs.length = zss.length := by have := h1.1; omega
  refine ⟨vs ++ [u], by rw [List.length_append]; exact hown, hP6, fun i u' hu' => ?_⟩
  rcases Nat.lt_or_ge i vs.length with hi | hi
  · rw [List.getElem?_append_left hi] at hu'
    obtain ⟨zs', q1, q2, q3⟩ := h3 i u' hu'
    exact ⟨zs', by rw [List.getElem?_append_left (by omega)]; exact q1, ownsRow_fr q2 hf (fun j e e' => rows_apart h1 q2 j e e'), q3⟩
  · have hi' : i = vs.length := by
      have := (List.getElem?_eq_some_iff.1 hu').1
      simp at this
      omega
    subst hi'
    rw [List.getElem?_append_right (Nat.le_refl _)] at hu'
    simp at hu'
    subst hu'
    exact ⟨zs, by rw [List.getElem?_append_right (by omega), hl]; simp, ownsRow_fr hu hf (fun j e e' => rows_apart h1 hu j e e'), hP⟩

end Go.Proofs.Ytmdlebolmhnhaab

namespace Go.Proofs.Ytmdlebolmhnhaab
open Go.RowKit (wrap32 wrap64)
open Go.Maps (Keyed)
set_option linter.unusedVariables false
set_option linter.unusedSimpArgs false

/-! ### the document's memory -/
structure CellR where
  fields : List Val
  heap : Bool
  there : Bool

structure RA where
  gl : List Val
  frs : List (List Nat)
  cells : List CellR

/-- Where it lies: by block a role: 1 the memory, 2 its globals, 3 its frames, 4 its cells, 5 + 2 i the numbers of the frame i, 6 + 2 i the fields of the cell i. -/
structure RG where
  own : Nat → Nat
  gv : Value
  fv : Value
  cv : Value
  fr : List Value
  fl : List Value

def cellC (u : Value) (c : CellR) : List Value := [u, .bool c.heap, .bool c.there]
def flatC : List Value → List CellR → List Value
  | u :: us, c :: cs => cellC u c ++ flatC us cs
  | _, _ => []

theorem flatC_length : ∀ (us : List Value) (cs : List CellR), us.length = cs.length → (flatC us cs).length = cs.length * 3
  | [], [], _ => rfl
  | u :: us, c :: cs, h => by simp [flatC, cellC, flatC_length us cs (by simpa using h)]; omega
  | [], c :: cs, h => by simp at h
  | u :: us, [], h => by simp at h
theorem flatC_get : ∀ (us : List Value) (cs : List CellR) (i : Nat) (u : Value) (c : CellR) (j : Nat), us[i]? = some u → cs[i]? = some c → j < 3 → (flatC us cs)[i * 3 + j]? = (cellC u c)[j]?
  | [], cs, i, u, c, j, h, _, _ => by simp at h
  | u0 :: us, [], i, u, c, j, _, h, _ => by simp at h
  | u0 :: us, c0 :: cs, 0, u, c, j, h, h', hj => by
    simp at h h'
    subst h; subst h'
    rw [Nat.zero_mul, Nat.zero_add]
    exact List.getElem?_append_left (by simpa [cellC] using hj)
  | u0 :: us, c0 :: cs, i + 1, u, c, j, h, h', hj => by
    rw [← flatC_get us cs i u c j (by simpa using h) (by simpa using h') hj]
    simp only [flatC]
    rw [List.getElem?_append_right (by simp [cellC]; omega)]
    congr 1
    simp [cellC]
    omega
theorem flatC_set : ∀ (us : List Value) (cs : List CellR) (i : Nat) (u : Value) (c c' : CellR) (j : Nat) (x : Value), us[i]? = some u → cs[i]? = some c → j < 3 → (cellC u c).set j x = cellC u c' → (flatC us cs).set (i * 3 + j) x = flatC us (cs.set i c')
  | [], cs, i, u, c, c', j, x, h, _, _, _ => by simp at h
  | u0 :: us, [], i, u, c, c', j, x, _, h, _, _ => by simp at h
  | u0 :: us, c0 :: cs, 0, u, c, c', j, x, h, h', hj, e => by
    simp at h h'
    subst h; subst h'
    rw [Nat.zero_mul, Nat.zero_add]
    show (cellC u0 c0 ++ flatC us cs).set j x = cellC u0 c' ++ flatC us cs
    rw [List.set_append_left _ _ (by simpa [cellC] using hj), e]
  | u0 :: us, c0 :: cs, i + 1, u, c, c', j, x, h, h', hj, e => by
    have := flatC_set us cs i u c c' j x (by simpa using h) (by simpa using h') hj e
    show (cellC u0 c0 ++ flatC us cs).set ((i + 1) * 3 + j) x = cellC u0 c0 ++ flatC us (cs.set i c')
    rw [List.set_append_right _ _ (by simp [cellC]; omega), ← this]
    congr 2
    simp [cellC]
    omega
theorem flatC_same : ∀ (us : List Value) (cs : List CellR) (i : Nat) (c c' : CellR), cs[i]? = some c → c'.heap = c.heap → c'.there = c.there → flatC us (cs.set i c') = flatC us cs
  | [], cs, i, c, c', _, _, _ => by simp [flatC]
  | u0 :: us, [], i, c, c', h, _, _ => by simp at h
  | u0 :: us, c0 :: cs, 0, c, c', h, h1, h2 => by
    simp at h
    subst h
    simp [flatC, cellC, h1, h2]
  | u0 :: us, c0 :: cs, i + 1, c, c', h, h1, h2 => by
    simp only [List.set_cons_succ, flatC]
    rw [flatC_same us cs i c c' (by simpa using h) h1 h2]
theorem flatC_snoc : ∀ (us : List Value) (cs : List CellR) (u : Value) (c : CellR), us.length = cs.length → flatC (us ++ [u]) (cs ++ [c]) = flatC us cs ++ cellC u c
  | [], [], u, c, _ => by simp [flatC]
  | u0 :: us, c0 :: cs, u, c, h => by simp [flatC, flatC_snoc us cs u c (by simpa using h)]
  | [], c :: cs, _, _, h => by simp at h
  | u :: us, [], _, _, h => by simp at h

/-! ### rows: reading and writing -/
theorem row_cell {w : World} {B e size n cap g : Nat} {xs : List Value} (h : w.ownsRow B e size (.slice (some ⟨g, 0, none⟩) n cap) n xs) {j : Nat} {u : Value} (hj : xs[j]? = some u) : w.cell? ⟨g, j, none⟩ = some u := by
  obtain ⟨h0, h1⟩ := h
  rcases h1 with ⟨e1, -⟩ | ⟨g', cap', cur, e1, k1, k2, k3, k4, k5, k6⟩
  · cases e1
  · cases e1
    have hjl := (List.getElem?_eq_some_iff.1 hj).1
    rw [cell_of k2, ← Array.getElem?_toList]
    rw [← k6] at hj
    rw [List.getElem?_take_of_lt (by omega)] at hj
    exact hj
theorem row_block {w : World} {B e size n cap g : Nat} {xs : List Value} (h : w.ownsRow B e size (.slice (some ⟨g, 0, none⟩) n cap) n xs) : ∃ cur, w.heap[g]? = some (.cells cur e) := by
  obtain ⟨h0, h1⟩ := h
  rcases h1 with ⟨e1, -⟩ | ⟨g', cap', cur, e1, k1, k2, k3⟩
  · cases e1
  · cases e1
    exact ⟨cur, k2⟩
theorem row_set {w : World} {B e size n cap g : Nat} {xs : List Value} (h : w.ownsRow B e size (.slice (some ⟨g, 0, none⟩) n cap) n xs) (j : Nat) (u : Value) : (w.setCell ⟨g, j, none⟩ u).ownsRow B e size (.slice (some ⟨g, 0, none⟩) n cap) n (xs.set j u) := by
  obtain ⟨h0, h1⟩ := h
  refine ⟨by simpa using h0, ?_⟩
  rcases h1 with ⟨e1, -⟩ | ⟨g', cap', cur, e1, k1, k2, k3, k4, k5, k6⟩
  · cases e1
  · cases e1
    refine Or.inr ⟨g, cap, cur.setIfInBounds j u, rfl, k1, set_of k2 j u, k3, k4, by simpa using k5, ?_⟩
    rw [← k6, Array.toList_setIfInBounds, List.take_set]
theorem row_shape {w : World} {B e size n : Nat} {v : Value} {xs : List Value} (h : w.ownsRow B e size v n xs) : ∃ ad cap, v = .slice ad n cap ∧ n ≤ cap ∧ (0 < n → ∃ g, ad = some ⟨g, 0, none⟩) := by
  rcases h.2 with ⟨e, rfl⟩ | ⟨g, cap, cur, e, -, -, hn, -⟩
  · exact ⟨_, _, e, Nat.le_refl _, fun h => absurd h (by omega)⟩
  · exact ⟨_, _, e, hn, fun _ => ⟨g, rfl⟩⟩

structure RMem (w : World) (b : Nat) (g : RG) (a : RA) : Prop where
  blk : w.heap[b]? = some (.cells #[g.gv, g.fv, g.cv] 56)
  gls : w.ownsRow 0 28 2 g.gv a.gl.length (flat a.gl)
  frs : w.ownsRow 0 29 1 g.fv a.frs.length g.fr
  fro : ∀ (i : Nat) (u : Value) (l : List Nat), g.fr[i]? = some u → a.frs[i]? = some l → w.ownsRow 0 3 1 u l.length (l.map fun n : Nat => vI n)
  cls : w.ownsRow 0 77 3 g.cv a.cells.length (flatC g.fl a.cells)
  flo : ∀ (i : Nat) (u : Value) (c : CellR), g.fl[i]? = some u → a.cells[i]? = some c → w.ownsRow 0 28 2 u c.fields.length (flat c.fields)
  lfl : g.fl.length = a.cells.length
  ob : g.own b = 1
  og : ∀ j, g.gv.ownBlock = some j → g.own j = 2
  of : ∀ j, g.fv.ownBlock = some j → g.own j = 3
  oc : ∀ j, g.cv.ownBlock = some j → g.own j = 4
  ofr : ∀ (i : Nat) (u : Value) (j : Nat), g.fr[i]? = some u → u.ownBlock = some j → g.own j = 5 + 2 * i
  ofl : ∀ (i : Nat) (u : Value) (j : Nat), g.fl[i]? = some u → u.ownBlock = some j → g.own j = 6 + 2 * i
  olt : ∀ k, g.own k ≠ 0 → k < w.heap.size

theorem RMem.lfr {w : World} {b : Nat} {g : RG} {a : RA} (h : RMem w b g a) : g.fr.length = a.frs.length := by have := h.frs.1; omega

theorem RMem.fr' {S : Nat → Prop} {w w' : World} {b : Nat} {g : RG} {a : RA} (h : RMem w b g a) (f : Fr S w w') (hS : ∀ k, g.own k ≠ 0 → ¬ S k) : RMem w' b g a where
  blk := by rw [f.block b (heap_lt h.blk) (hS b (by rw [h.ob]; decide))]; exact h.blk
  gls := ownsRow_fr h.gls f (fun j e => hS j (by rw [h.og j e]; decide))
  frs := ownsRow_fr h.frs f (fun j e => hS j (by rw [h.of j e]; decide))
  fro := fun i u l e1 e2 => ownsRow_fr (h.fro i u l e1 e2) f (fun j e => hS j (by rw [h.ofr i u j e1 e]; omega))
  cls := ownsRow_fr h.cls f (fun j e => hS j (by rw [h.oc j e]; decide))
  flo := fun i u c e1 e2 => ownsRow_fr (h.flo i u c e1 e2) f (fun j e => hS j (by rw [h.ofl i u j e1 e]; omega))
  lfl := h.lfl
  ob := h.ob
  og := h.og
  of := h.of
  oc := h.oc
  ofr := h.ofr
  ofl := h.ofl
  olt := fun k hk => Nat.lt_of_lt_of_le (h.olt k hk) f.size
theorem RMem.keep {w w' : World} {b : Nat} {g : RG} {a : RA} (h : RMem w b g a) (f : Fr (fun _ => False) w w') : RMem w' b g a := h.fr' f (fun _ _ h => h)

theorem RMem.heads {w : World} {b : Nat} {g : RG} {a : RA} (h : RMem w b g a) : w.cell? ⟨b, 0, none⟩ = some g.gv ∧ w.cell? ⟨b, 1, none⟩ = some g.fv ∧ w.cell? ⟨b, 2, none⟩ = some g.cv := by
  simp only [cell_of h.blk]
  exact ⟨rfl, rfl, rfl⟩

/-- The same, of one cell of a row that is another: the row alone has changed. -/
theorem setCell_fr (w : World) (k o : Nat) (u : Value) : Fr (fun j => j = k) w (w.setCell ⟨k, o, none⟩ u) := Fr.setCell (S := fun j => j = k) (Fr.refl _ w) _ _ (Or.inl rfl)

def RExt (s : Nat) (g g' : RG) : Prop := ∀ k, k < s → g'.own k = g.own k

end Go.Proofs.Ytmdlebolmhnhaab
