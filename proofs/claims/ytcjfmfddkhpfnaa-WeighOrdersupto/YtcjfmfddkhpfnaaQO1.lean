import Derived.Test.YtcjfmfddkhpfnaaQA8J
namespace Go.Proofs.Ytcjfmfddkhpfnaa
open Go.RowKit (wrap32 wrap64)
set_option linter.unusedVariables false
set_option linter.unusedSimpArgs false

/-! ### lists of edges and numbers that a statement makes -/
def OwnE (w : World) (B : Nat) (v : Value) (es : List Ed) : Prop := w.ownsRow B 27 3 v es.length (eCells es)
def OwnI (w : World) (B : Nat) (v : Value) (zs : List Int) : Prop := w.ownsRow B 3 1 v zs.length (zs.map vI)

theorem eCells_length : ∀ es : List Ed, (eCells es).length = es.length * 3
  | [] => rfl
  | e :: r => by simp [eCells, eCells_length r]; omega
theorem eCells_append : ∀ (a b : List Ed), eCells (a ++ b) = eCells a ++ eCells b
  | [], _ => rfl
  | e :: r, b => by simp [eCells, eCells_append r b]
theorem OwnE.nil (w : World) (B : Nat) : OwnE w B (.slice none 0 0) [] := World.ownsRow_nil w B 27 3
theorem OwnI.nil (w : World) (B : Nat) : OwnI w B (.slice none 0 0) [] := World.ownsRow_nil w B 3 1
theorem OwnE.fr {S : Nat → Prop} {w w' : World} {B : Nat} {v : Value} {es : List Ed} (h : OwnE w B v es) (f : Fr S w w') (hS : ∀ g, v.ownBlock = some g → ¬ S g) : OwnE w' B v es := ownsRow_fr h f hS
theorem OwnI.fr {S : Nat → Prop} {w w' : World} {B : Nat} {v : Value} {zs : List Int} (h : OwnI w B v zs) (f : Fr S w w') (hS : ∀ g, v.ownBlock = some g → ¬ S g) : OwnI w' B v zs := ownsRow_fr h f hS
theorem OwnE.ge {w : World} {B : Nat} {v : Value} {es : List Ed} (h : OwnE w B v es) : ∀ k, v.ownBlock = some k → B ≤ k ∧ k < w.heap.size := World.ownsRow.lt h
theorem OwnI.ge {w : World} {B : Nat} {v : Value} {zs : List Int} (h : OwnI w B v zs) : ∀ k, v.ownBlock = some k → B ≤ k ∧ k < w.heap.size := World.ownsRow.lt h
theorem OwnE.at {w : World} {B : Nat} {v : Value} {es : List Ed} (h : OwnE w B v es) : EdgesAt w.heap.size w v es := by
  rcases h.2 with ⟨h2, h3⟩ | ⟨g, cap, cur, e, h3, h4, h5, h6, h7, h8⟩
  · exact ⟨none, 0, by rw [h2, h3], by omega, fun hne => absurd (List.eq_nil_of_length_eq_zero h3) hne⟩
  · refine ⟨_, cap, e, h5, fun _ => ⟨g, 0, rfl, heap_lt h4, fun i hi => ?_⟩⟩
    have key : ∀ j, j < es.length * 3 → cur[j]? = (eCells es)[j]? := fun j hj => by
      rw [← h8, List.getElem?_take, if_pos hj, Array.getElem?_toList]
    obtain ⟨k0, k1, k2⟩ := eCells_get es i hi
    simp only [Nat.zero_add, cell_of h4]
    rw [key _ (by omega), key _ (by omega), key _ (by omega)]
    exact ⟨k0, k1, k2⟩
theorem OwnI.at {w : World} {B : Nat} {v : Value} {zs : List Int} (h : OwnI w B v zs) : IntsAt w.heap.size w v zs := by
  rcases h.2 with ⟨h2, h3⟩ | ⟨g, cap, cur, e, h3, h4, h5, h6, h7, h8⟩
  · exact ⟨none, 0, by rw [h2, h3], by omega, fun hne => absurd (List.eq_nil_of_length_eq_zero h3) hne⟩
  · refine ⟨_, cap, e, h5, fun _ => ⟨g, 0, rfl, heap_lt h4, fun i hi => ?_⟩⟩
    rw [Nat.zero_add, cell_of h4]
    have : cur[i]? = (zs.map vI)[i]? := by rw [← h8, List.getElem?_take, if_pos (by omega), Array.getElem?_toList]
    rw [this]
    simp [hi]
theorem OwnE.shape {w : World} {B : Nat} {v : Value} {es : List Ed} (h : OwnE w B v es) : ∃ ad cap, v = .slice ad es.length cap := by
  obtain ⟨a, c, e, -⟩ := h.at
  exact ⟨a, c, e⟩
theorem OwnI.shape {w : World} {B : Nat} {v : Value} {zs : List Int} (h : OwnI w B v zs) : ∃ ad cap, v = .slice ad zs.length cap := by
  obtain ⟨a, c, e, -⟩ := h.at
  exact ⟨a, c, e⟩
/-- Two lists that lie apart. -/
def Apt (v u : Value) : Prop := ∀ j, v.ownBlock = some j → u.ownBlock = some j → False
theorem Apt.symm {v u : Value} (h : Apt v u) : Apt u v := fun j a b => h j b a
theorem Apt.nil (u : Value) : Apt (.slice none 0 0) u := fun j a _ => by cases a
/-- What lay there before a row grew stays. -/
theorem grow_keepE {w w6 : World} {B : Nat} {v u : Value} {es : List Ed} (h : OwnE w B u es) (hg : w.grownBy w6 v.ownBlock) (ha : Apt v u) : OwnE w6 B u es := h.fr (grown_fr hg) (fun g hg e => ha g e hg)
theorem grow_keepI {w w6 : World} {B : Nat} {v u : Value} {zs : List Int} (h : OwnI w B u zs) (hg : w.grownBy w6 v.ownBlock) (ha : Apt v u) : OwnI w6 B u zs := h.fr (grown_fr hg) (fun g hg e => ha g e hg)
theorem grow_apt {w : World} {v u : Value} {g6 n cap H : Nat} (ha : Apt v u) (hat : v.ownBlock = some g6 ∨ g6 = H) (hu : ∀ k, u.ownBlock = some k → k < w.heap.size) (hH : w.heap.size ≤ H) : Apt (.slice (some ⟨g6, 0, none⟩) n cap) u := fun j hj hu' => by
  cases hj
  rcases hat with e | e
  · exact ha _ e hu'
  · have := hu _ hu'; simp at this; omega
theorem grow_fr0 {w wr w6 : World} {v : Value} (h : Fr (fun _ => False) w wr) (hg : wr.grownBy w6 v.ownBlock) (hb : ∀ k, v.ownBlock = some k → w.heap.size ≤ k) : Fr (fun _ => False) w w6 :=
  h.anew (grown_fr hg) (fun j hj e => by have := hb j e; omega)
theorem OwnE.of {w6 : World} {B : Nat} {es : List Ed} {e : Ed} {g cap : Nat} (h : w6.ownsRow B 27 3 (.slice (some ⟨g, 0, none⟩) (es.length + 1) cap) (es.length + 1) (eCells es ++ [vI e.1, vI e.2.1, vI e.2.2])) : OwnE w6 B (.slice (some ⟨g, 0, none⟩) (es.length + 1) cap) (es ++ [e]) := by
  unfold OwnE
  rw [eCells_append, List.length_append]
  exact h
theorem OwnI.of {w6 : World} {B : Nat} {zs : List Int} {z : Int} {g cap : Nat} (h : w6.ownsRow B 3 1 (.slice (some ⟨g, 0, none⟩) (zs.length + 1) cap) (zs.length + 1) (zs.map vI ++ [vI z])) : OwnI w6 B (.slice (some ⟨g, 0, none⟩) (zs.length + 1) cap) (zs ++ [z]) := by
  unfold OwnI
  rw [List.map_append, List.length_append]
  exact h

end Go.Proofs.Ytcjfmfddkhpfnaa
