import Derived.Test.YtmdlebolmhnhaaaH1
namespace Go.Proofs.Ytmdlebolmhnhaaa
open Go.RowKit (wrap32 wrap64)
open Go.Maps (Keyed)
set_option linter.unusedVariables false
set_option linter.unusedSimpArgs false

/-! ### rows of one's own: reading and writing -/
theorem row_cell {w : World} {B e size n cap g : Nat} {xs : List Value} (h : w.ownsRow B e size (.slice (some ⟨g, 0, none⟩) n cap) n xs) {j : Nat} {u : Value} (hj : xs[j]? = some u) : w.cell? ⟨g, j, none⟩ = some u := by
  obtain ⟨h0, h1⟩ := h
  rcases h1 with ⟨e1, -⟩ | ⟨g', cap', cur, e1, k1, k2, k3, k4, k5, k6⟩
  · cases e1
  · cases e1
    have hjl := (List.getElem?_eq_some_iff.1 hj).1
    rw [cell_of k2, ← Array.getElem?_toList]
    rw [← k6] at hj
    rw [List.getElem?_take_of_lt (by omega)] at hj
    exact hj

theorem row_block {w : World} {B e size n cap g : Nat} {xs : List Value} (h : w.ownsRow B e size (.slice (some ⟨g, 0, none⟩) n cap) n xs) : ∃ cur, w.heap[g]? = some (.cells cur e) := by
  obtain ⟨h0, h1⟩ := h
  rcases h1 with ⟨e1, -⟩ | ⟨g', cap', cur, e1, k1, k2, k3⟩
  · cases e1
  · cases e1
    exact ⟨cur, k2⟩

theorem row_set {w : World} {B e size n cap g : Nat} {xs : List Value} (h : w.ownsRow B e size (.slice (some ⟨g, 0, none⟩) n cap) n xs) (j : Nat) (u : Value) : (w.setCell ⟨g, j, none⟩ u).ownsRow B e size (.slice (some ⟨g, 0, none⟩) n cap) n (xs.set j u) := by
  obtain ⟨h0, h1⟩ := h
  refine ⟨by simpa using h0, ?_⟩
  rcases h1 with ⟨e1, -⟩ | ⟨g', cap', cur, e1, k1, k2, k3, k4, k5, k6⟩
  · cases e1
  · cases e1
    refine Or.inr ⟨g, cap, cur.setIfInBounds j u, rfl, k1, set_of k2 j u, k3, k4, by simpa using k5, ?_⟩
    rw [← k6, Array.toList_setIfInBounds, List.take_set]

theorem row_shape {w : World} {B e size n : Nat} {v : Value} {xs : List Value} (h : w.ownsRow B e size v n xs) : ∃ ad cap, v = .slice ad n cap ∧ (0 < n → ∃ g, ad = some ⟨g, 0, none⟩) := by
  rcases h.2 with ⟨e, rfl⟩ | ⟨g, cap, cur, e, -⟩
  · exact ⟨_, _, e, fun h => absurd h (by omega)⟩
  · exact ⟨_, _, e, fun _ => ⟨g, rfl⟩⟩

/-! ### the ledger's list -/
structure Ent where
  num : Int
  fv : Value
  m : MadeR

def entC (r : Ent) : List Value := [vI r.num, r.fv, vI r.m.depth, .bool r.m.heap, .bool r.m.there]
def flatE : List Ent → List Value
  | [] => []
  | r :: l => entC r ++ flatE l

theorem flatE_length : ∀ l : List Ent, (flatE l).length = l.length * 5
  | [] => rfl
  | r :: l => by simp [flatE, entC, flatE_length l]; omega
theorem flatE_append : ∀ (l k : List Ent), flatE (l ++ k) = flatE l ++ flatE k
  | [], k => rfl
  | r :: l, k => by simp [flatE, flatE_append l k]
theorem flatE_get : ∀ (l : List Ent) (i : Nat) (r : Ent) (j : Nat), l[i]? = some r → j < 5 → (flatE l)[i * 5 + j]? = (entC r)[j]?
  | [], i, r, j, h, _ => by simp at h
  | r0 :: l, 0, r, j, h, hj => by
    simp at h
    subst h
    rw [Nat.zero_mul, Nat.zero_add]
    exact List.getElem?_append_left (by simpa [entC] using hj)
  | r0 :: l, i + 1, r, j, h, hj => by
    have := flatE_get l i r j (by simpa using h) hj
    rw [← this]
    simp only [flatE]
    rw [List.getElem?_append_right (by simp [entC]; omega)]
    congr 1
    simp [entC]
    omega
theorem flatE_set : ∀ (l : List Ent) (i : Nat) (r r' : Ent) (j : Nat) (u : Value), l[i]? = some r → j < 5 → (entC r).set j u = entC r' → (flatE l).set (i * 5 + j) u = flatE (l.set i r')
  | [], i, r, r', j, u, h, _, _ => by simp at h
  | r0 :: l, 0, r, r', j, u, h, hj, e => by
    simp at h
    subst h
    rw [Nat.zero_mul, Nat.zero_add]
    show (entC r0 ++ flatE l).set j u = entC r' ++ flatE l
    rw [List.set_append_left _ _ (by simpa [entC] using hj), e]
  | r0 :: l, i + 1, r, r', j, u, h, hj, e => by
    have := flatE_set l i r r' j u (by simpa using h) hj e
    show (entC r0 ++ flatE l).set ((i + 1) * 5 + j) u = entC r0 ++ flatE (l.set i r')
    rw [List.set_append_right _ _ (by simp [entC]; omega), ← this]
    congr 2
    simp [entC]
    omega

/-- The blocks of a ledger. -/
def LB (lb : Nat) (av : Value) (E : List Ent) (k : Nat) : Prop := k = lb ∨ av.ownBlock = some k ∨ ∃ (i : Nat) (r : Ent), E[i]? = some r ∧ r.fv.ownBlock = some k

/-- A ledger at lb, over the memory at b. -/
structure Led (w : World) (B lb b d : Nat) (av : Value) (E : List Ent) : Prop where
  blk : w.heap[lb]? = some (.cells #[ptr b, vI d, av] 52)
  row : w.ownsRow B 76 5 av E.length (flatE E)
  fld : ∀ (i : Nat) (r : Ent), E[i]? = some r → w.ownsRow B 32 2 r.fv r.m.fields.length (flat r.m.fields)
  num : ∀ (i : Nat) (r : Ent), E[i]? = some r → r.num = ((i + 1 : Nat) : Int)
  apart : ∀ (i j : Nat) (r s : Ent) (k : Nat), E[i]? = some r → E[j]? = some s → r.fv.ownBlock = some k → s.fv.ownBlock = some k → i = j
  base : B ≤ lb

theorem Led.fr {w w' : World} {B lb b d : Nat} {av : Value} {E : List Ent} (h : Led w B lb b d av E) {S : Nat → Prop} (f : Fr S w w') (hS : ∀ k, LB lb av E k → ¬ S k) : Led w' B lb b d av E where
  blk := (f.block lb (heap_lt h.blk) (hS lb (Or.inl rfl))).trans h.blk
  row := ownsRow_fr h.row f (fun j e => hS j (Or.inr (Or.inl e)))
  fld := fun i r e => ownsRow_fr (h.fld i r e) f (fun j ej => hS j (Or.inr (Or.inr ⟨i, r, e, ej⟩)))
  num := h.num
  apart := h.apart
  base := h.base
theorem Led.keep {w w' : World} {B lb b d : Nat} {av : Value} {E : List Ent} (h : Led w B lb b d av E) (f : Fr (fun _ => False) w w') : Led w' B lb b d av E := h.fr f (fun _ _ h => h)

theorem Led.lt {w : World} {B lb b d : Nat} {av : Value} {E : List Ent} (h : Led w B lb b d av E) {k : Nat} (hk : LB lb av E k) : B ≤ k ∧ k < w.heap.size := by
  rcases hk with rfl | e | ⟨i, r, e, ej⟩
  · exact ⟨h.base, heap_lt h.blk⟩
  · exact World.ownsRow.lt h.row k e
  · exact World.ownsRow.lt (h.fld i r e) k ej

/-- A memory and a ledger that share nothing, made since w0. -/
structure Both (w0 w : World) (b : Nat) (g : Gh) (a : Abs) (lb d : Nat) (av : Value) (E : List Ent) : Prop where
  mem : Mem w b g a
  led : Led w w0.heap.size lb b d av E
  out : ∀ k, LB lb av E k → g.own k = 0
  own : OwnNew w0.heap.size g
  fr : Fr (fun _ => False) w0 w

theorem Both.keep {w0 w w' : World} {b : Nat} {g : Gh} {a : Abs} {lb d : Nat} {av : Value} {E : List Ent} (h : Both w0 w b g a lb d av E) (f : Fr (fun _ => False) w w') : Both w0 w' b g a lb d av E :=
  ⟨h.mem.keep f, h.led.keep f, h.out, h.own, h.fr.trans f⟩

/-- A call of the memory: the ledger stays. -/
theorem Both.call {w0 w w' : World} {b : Nat} {g g' : Gh} {a a' : Abs} {lb d : Nat} {av : Value} {E : List Ent} (h : Both w0 w b g a lb d av E) (hM : Mem w' b g' a') (f : Fr (fun j => g.own j ≠ 0) w w') (x : Ext w.heap.size g g') :
    Both w0 w' b g' a' lb d av E :=
  ⟨hM, h.led.fr f (fun k hk e => e (h.out k hk)), fun k hk => (x k (h.led.lt hk).2).trans (h.out k hk), h.own.ext x h.fr.size, h.fr.anew f h.own⟩

end Go.Proofs.Ytmdlebolmhnhaaa
