import Derived.Test.YtmdlebolmhnhaaaG2
namespace Go.Proofs.Ytmdlebolmhnhaaa
open Go.RowKit (wrap32 wrap64)
open Go.Maps (Keyed)
set_option linter.unusedVariables false
set_option linter.unusedSimpArgs false

/-- A list of lists of its own: all of its blocks are such as P says. -/
def RowsL (w : World) (B : Nat) (v : Value) (zss : List (List Int)) (P : Nat → Prop) : Prop :=
  ∃ vs : List Value, w.ownsRow B 39 1 v zss.length vs ∧ (∀ j, v.ownBlock = some j → P j) ∧
    ∀ (i : Nat) (u : Value), vs[i]? = some u → ∃ zs : List Int, zss[i]? = some zs ∧ w.ownsRow B 3 1 u zs.length (zs.map vI) ∧ ∀ j, u.ownBlock = some j → P j

theorem RowsL.nil (w : World) (B : Nat) (P : Nat → Prop) : RowsL w B (.slice none 0 0) [] P :=
  ⟨[], World.ownsRow_nil _ _ _ _, fun j e => (by cases e), fun i u h => (by simp at h)⟩

theorem RowsL.fr {w w' : World} {B : Nat} {v : Value} {zss : List (List Int)} {P S : Nat → Prop} (h : RowsL w B v zss P) (f : Fr S w w') (hS : ∀ j, P j → ¬ S j) : RowsL w' B v zss P := by
  obtain ⟨vs, h1, h2, h3⟩ := h
  refine ⟨vs, ownsRow_fr h1 f (fun j e => hS j (h2 j e)), h2, fun i u hu => ?_⟩
  obtain ⟨zs, k1, k2, k3⟩ := h3 i u hu
  exact ⟨zs, k1, ownsRow_fr k2 f (fun j e => hS j (k3 j e)), k3⟩

theorem RowsL.mono {w : World} {B : Nat} {v : Value} {zss : List (List Int)} {P Q : Nat → Prop} (h : RowsL w B v zss P) (hPQ : ∀ j, j < w.heap.size → P j → Q j) : RowsL w B v zss Q := by
  obtain ⟨vs, h1, h2, h3⟩ := h
  refine ⟨vs, h1, fun j e => hPQ j (World.ownsRow.lt h1 j e).2 (h2 j e), fun i u hu => ?_⟩
  obtain ⟨zs, k1, k2, k3⟩ := h3 i u hu
  exact ⟨zs, k1, k2, fun j e => hPQ j (World.ownsRow.lt k2 j e).2 (k3 j e)⟩

theorem RowsL.lists {w : World} {B : Nat} {v : Value} {zss : List (List Int)} {P : Nat → Prop} (h : RowsL w B v zss P) : ListsAt w v zss := by
  obtain ⟨vs, ⟨h0, h1⟩, h2, h3⟩ := h
  rcases h1 with ⟨rfl, hn⟩ | ⟨g, cap, cur, rfl, k1, k2, k3, k4, k5, k6⟩
  · have := List.length_eq_zero_iff.1 hn
    subst this
    exact ⟨none, 0, rfl, fun h => absurd rfl h⟩
  · refine ⟨_, _, rfl, fun _ => ⟨g, 0, rfl, fun j hj => ?_⟩⟩
    have hjv : j < vs.length := by omega
    obtain ⟨zs, q1, q2, -⟩ := h3 j vs[j] (List.getElem?_eq_getElem hjv)
    refine ⟨vs[j], ?_, ?_⟩
    · rw [Nat.zero_add, cell_of k2]
      have e1 : (cur.toList.take (zss.length * 1))[j]? = cur.toList[j]? := by rw [List.getElem?_take]; simp [hj]
      rw [← Array.getElem?_toList, ← e1, k6, List.getElem?_eq_getElem hjv]
    · rw [q1]
      exact IntsAt.of_row q2

/-- One of its lists. -/
theorem RowsL.at {w : World} {B : Nat} {v : Value} {zss : List (List Int)} {P : Nat → Prop} (h : RowsL w B v zss P) {i : Nat} {zs : List Int} (hi : zss[i]? = some zs) :
    ∃ k cap u, v = .slice (some ⟨k, 0, none⟩) zss.length cap ∧ w.cell? ⟨k, i, none⟩ = some u ∧ w.ownsRow B 3 1 u zs.length (zs.map vI) ∧ ∀ j, u.ownBlock = some j → P j := by
  obtain ⟨vs, ⟨h0, h1⟩, h2, h3⟩ := h
  have hil : i < zss.length := (List.getElem?_eq_some_iff.1 hi).1
  rcases h1 with ⟨rfl, hn⟩ | ⟨g, cap, cur, rfl, k1, k2, k3, k4, k5, k6⟩
  · omega
  · have hjv : i < vs.length := by omega
    obtain ⟨zs', q1, q2, q3⟩ := h3 i vs[i] (List.getElem?_eq_getElem hjv)
    rw [hi] at q1
    cases q1
    refine ⟨g, cap, vs[i], rfl, ?_, q2, q3⟩
    rw [cell_of k2]
    have e1 : (cur.toList.take (zss.length * 1))[i]? = cur.toList[i]? := by rw [List.getElem?_take]; simp [hil]
    rw [← Array.getElem?_toList, ← e1, k6, List.getElem?_eq_getElem hjv]

/-- A row of lists and a row of numbers lie in two blocks. -/
theorem rows_apart {w : World} {B B' : Nat} {v u : Value} {n m : Nat} {xs ys : List Value} (h : w.ownsRow B 39 1 v n xs) (k : w.ownsRow B' 3 1 u m ys) : ∀ j, u.ownBlock = some j → v.ownBlock ≠ some j := by
  intro j hu hv
  rcases h.2 with ⟨rfl, -⟩ | ⟨g, cap, cur, rfl, -, h2, -⟩
  · cases hv
  · rcases k.2 with ⟨rfl, -⟩ | ⟨g', cap', cur', rfl, -, k2, -⟩
    · cases hu
    · cases hv
      cases hu
      rw [h2] at k2
      cases k2

/-- It has grown by one. -/
theorem RowsL.grow {w w6 : World} {B : Nat} {v v6 u : Value} {zss : List (List Int)} {zs : List Int} {P : Nat → Prop} {vs : List Value} (h1 : w.ownsRow B 39 1 v zss.length vs) (h3 : ∀ (i : Nat) (u : Value), vs[i]? = some u → ∃ zs : List Int, zss[i]? = some zs ∧ w.ownsRow B 3 1 u zs.length (zs.map vI) ∧ ∀ j, u.ownBlock = some j → P j)
    (hu : w.ownsRow B 3 1 u zs.length (zs.map vI)) (hP : ∀ j, u.ownBlock = some j → P j) (hown : w6.ownsRow B 39 1 v6 (zss.length + 1) (vs ++ [u])) (hf : Fr (fun j => v.ownBlock = some j) w w6) (hP6 : ∀ j, v6.ownBlock = some j → P j) :
    RowsL w6 B v6 (zss ++ [zs]) P := by
  have hl : vs.length = zss.length := by have := h1.1; omega
  refine ⟨vs ++ [u], by rw [List.length_append]; exact hown, hP6, fun i u' hu' => ?_⟩
  rcases Nat.lt_or_ge i vs.length with hi | hi
  · rw [List.getElem?_append_left hi] at hu'
    obtain ⟨zs', q1, q2, q3⟩ := h3 i u' hu'
    exact ⟨zs', by rw [List.getElem?_append_left (by omega)]; exact q1, ownsRow_fr q2 hf (fun j e e' => rows_apart h1 q2 j e e'), q3⟩
  · have hi' : i = vs.length := by
      have := (List.getElem?_eq_some_iff.1 hu').1
      simp at this
      omega
    subst hi'
    rw [List.getElem?_append_right (Nat.le_refl _)] at hu'
    simp at hu'
    subst hu'
    exact ⟨zs, by rw [List.getElem?_append_right (by omega), hl]; simp, ownsRow_fr hu hf (fun j e e' => rows_apart h1 hu j e e'), hP⟩

/-- The two lists in turns. -/
def mixL (n1 n2 : Nat) (T1 T2 : Nat → List Int) : Nat → List (List Int)
  | 0 => []
  | k + 1 => (mixL n1 n2 T1 T2 k ++ if k < n1 then [T1 k] else []) ++ if k < n2 then [T2 k] else []

theorem mixL_len (n1 n2 : Nat) (T1 T2 : Nat → List Int) : ∀ k, (mixL n1 n2 T1 T2 k).length ≤ min k n1 + min k n2
  | 0 => by simp [mixL]
  | k + 1 => by
    have := mixL_len n1 n2 T1 T2 k
    simp only [mixL, List.length_append]
    split <;> split <;> simp <;> omega

/-- What the memory is ahead of a script's call, and what the call tells. -/
def runA (os : List OpR) (zss : Nat → List Int) : Nat → Abs
  | 0 => pushX (newX 2)
  | k + 1 => match os[k]? with | some o => (ansX (runA os zss k) o (zss k)).abs | none => runA os zss k
def tellA (os : List OpR) (zss : Nat → List Int) (k : Nat) : List Int :=
  match os[k]? with | some o => tellX (ansX (runA os zss k) o (zss k)) | none => []

theorem runA_fine (os : List OpR) (zss : Nat → List Int) : ∀ k, Fine (k + 2) (runA os zss k)
  | 0 => ⟨by simp [runA, pushX, newX], by simp [runA, pushX, newX], by simp [runA, pushX, newX], by simp [runA, pushX, newX]⟩
  | k + 1 => by
    have h := runA_fine os zss k
    simp only [runA]
    split
    · exact h.ans _ _
    · exact h.mono (Nat.le_succ _)

end Go.Proofs.Ytmdlebolmhnhaaa
