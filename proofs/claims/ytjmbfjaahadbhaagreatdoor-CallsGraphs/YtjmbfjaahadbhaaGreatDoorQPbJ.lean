import Derived.Test.YtjmbfjaahadbhaaGreatDoorQRaJ
import Derived.Test.YtjmbfjaahadbhaaGreatDoorQPcJ
import Derived.Test.YtjmbfjaahadbhaaGreatDoorQGdJ
import Derived.BigRegion
set_option linter.unusedVariables false
set_option linter.unusedSimpArgs false
namespace Go.Proofs.YtjmbfjaahadbhaaGreatDoor

/-! ### a heap, in plain lists -/
/-- The number at a place. -/
abbrev aT (l : List Int) (k : Nat) : Int := l.getD k 0
/-- Two places changed about. -/
def sw (l : List Int) (i j : Nat) : List Int := (l.set i (aT l j)).set j (aT l i)
theorem sw_len (l : List Int) (i j : Nat) : (sw l i j).length = l.length := by simp [sw]
theorem sw_at {l : List Int} {i j : Nat} (hi : i < l.length) (hj : j < l.length) (k : Nat) : aT (sw l i j) k = if k = j then aT l i else if k = i then aT l j else aT l k := by
  unfold aT sw
  rw [List.getD_eq_getElem?_getD, List.getElem?_set]
  by_cases e : j = k
  · subst e
    simp [hj]
  · have e' : ¬ k = j := fun x => e x.symm
    rw [if_neg e, if_neg e', List.getElem?_set]
    by_cases e2 : i = k
    · subst e2
      simp [hi]
    · have e2' : ¬ k = i := fun x => e2 x.symm
      rw [if_neg e2, if_neg e2']
      simp
theorem mem_at {l : List Int} {x : Int} : x ∈ l ↔ ∃ k, k < l.length ∧ aT l k = x := by
  rw [List.mem_iff_getElem]
  constructor
  · rintro ⟨k, hk, e⟩
    exact ⟨k, hk, by simp [aT, List.getD_eq_getElem?_getD, hk, e]⟩
  · rintro ⟨k, hk, e⟩
    refine ⟨k, hk, ?_⟩
    simpa [aT, List.getD_eq_getElem?_getD, hk] using e
theorem sw_mem {l : List Int} {i j : Nat} (hi : i < l.length) (hj : j < l.length) (x : Int) : x ∈ sw l i j ↔ x ∈ l := by
  rw [mem_at, mem_at, sw_len]
  constructor
  · rintro ⟨k, hk, e⟩
    rw [sw_at hi hj] at e
    split at e
    · exact ⟨i, hi, e⟩
    · split at e
      · exact ⟨j, hj, e⟩
      · exact ⟨k, hk, e⟩
  · rintro ⟨k, hk, e⟩
    by_cases e1 : k = i
    · exact ⟨j, hj, by rw [sw_at hi hj, if_pos rfl, ← e1]; exact e⟩
    · by_cases e2 : k = j
      · refine ⟨i, hi, ?_⟩
        rw [sw_at hi hj]
        split
        · rename_i e3; rw [e3, ← e2]; exact e
        · rw [if_pos rfl, ← e2]; exact e
      · exact ⟨k, hk, by rw [sw_at hi hj, if_neg e2, if_neg e1]; exact e⟩
/-- No number twice. -/
def NJ (l : List Int) : Prop := ∀ i j, i < l.length → j < l.length → aT l i = aT l j → i = j
theorem sw_nj {l : List Int} {i j : Nat} (hi : i < l.length) (hj : j < l.length) (h : NJ l) : NJ (sw l i j) := by
  intro a b ha hb e
  rw [sw_len] at ha hb
  rw [sw_at hi hj, sw_at hi hj] at e
  have k := fun x y hx hy he => h x y hx hy he
  by_cases a1 : a = j
  · rw [if_pos a1] at e
    by_cases b1 : b = j
    · omega
    · rw [if_neg b1] at e
      by_cases b2 : b = i
      · rw [if_pos b2] at e
        have := k i j hi hj e
        omega
      · rw [if_neg b2] at e
        have := k i b hi hb e
        omega
  · rw [if_neg a1] at e
    by_cases a2 : a = i
    · rw [if_pos a2] at e
      by_cases b1 : b = j
      · rw [if_pos b1] at e
        have := k j i hj hi e
        omega
      · rw [if_neg b1] at e
        by_cases b2 : b = i
        · omega
        · rw [if_neg b2] at e
          have := k j b hj hb e
          omega
    · rw [if_neg a2] at e
      by_cases b1 : b = j
      · rw [if_pos b1] at e
        have := k a i ha hi e
        omega
      · rw [if_neg b1] at e
        by_cases b2 : b = i
        · rw [if_pos b2] at e
          have := k a j ha hj e
          omega
        · rw [if_neg b2] at e
          exact k a b ha hb e
/-- A heap, as far as its first n. -/
def HP (n : Nat) (l : List Int) : Prop := ∀ k, 0 < k → k < n → aT l ((k - 1) / 2) ≤ aT l k
theorem HP.first {n : Nat} {l : List Int} (h : HP n l) : ∀ k, k < n → aT l 0 ≤ aT l k := by
  intro k
  induction k using Nat.strongRecOn with
  | ind k ih =>
    intro hk
    by_cases e : k = 0
    · rw [e]; exact Int.le_refl _
    · have k1 := h k (by omega) hk
      have k2 := ih ((k - 1) / 2) (by omega) (by omega)
      omega
/-- A heap but for place j, which may be less than the one above it. -/
structure HU (n : Nat) (l : List Int) (j : Nat) : Prop where
  a : ∀ k, 0 < k → k < n → k ≠ j → aT l ((k - 1) / 2) ≤ aT l k
  b : ∀ k, 0 < k → k < n → (k - 1) / 2 = j → 0 < j → aT l ((j - 1) / 2) ≤ aT l k
theorem HU.stop {n : Nat} {l : List Int} {j : Nat} (h : HU n l j) (hs : j = 0 ∨ aT l ((j - 1) / 2) ≤ aT l j) : HP n l := by
  intro k h0 hk
  by_cases e : k = j
  · subst e
    rcases hs with e | e
    · omega
    · exact e
  · exact h.a k h0 hk e
theorem HU.step {l : List Int} {j : Nat} (h : HU l.length l j) (hj : j < l.length) (h0 : 0 < j) (hl : aT l j < aT l ((j - 1) / 2)) : HU l.length (sw l ((j - 1) / 2) j) ((j - 1) / 2) := by
  have hi : (j - 1) / 2 < l.length := by omega
  have S := sw_at (l := l) hi hj
  obtain ⟨i, ei⟩ : ∃ i, i = (j - 1) / 2 := ⟨_, rfl⟩
  have eij : i ≠ j := by omega
  rw [← ei] at S hl hi ⊢
  refine ⟨fun k k0 hk hne => ?_, fun k k0 hk e hi0 => ?_⟩
  · rw [S, S]
    by_cases e1 : k = j
    · subst e1
      rw [if_neg (by omega), if_pos ei.symm, if_pos rfl]
      omega
    · rw [if_neg e1, if_neg hne]
      by_cases e2 : (k - 1) / 2 = j
      · rw [if_pos e2]
        have := h.b k k0 hk e2 h0
        rw [ei]; exact this
      · rw [if_neg e2]
        by_cases e3 : (k - 1) / 2 = i
        · rw [if_pos e3]
          have := h.a k k0 hk e1
          rw [e3] at this
          omega
        · rw [if_neg e3]
          exact h.a k k0 hk e1
  · rw [S, S]
    have q1 := h.a i hi0 hi eij
    rw [if_neg (by omega), if_neg (by omega)]
    by_cases e1 : k = j
    · rw [if_pos e1]
      exact q1
    · rw [if_neg e1, if_neg (by omega)]
      have := h.a k k0 hk e1
      rw [e] at this
      omega
/-- A heap, as far as its first n, but for place i, which may be greater than those below it. -/
structure HDn (n : Nat) (l : List Int) (i : Nat) : Prop where
  a : ∀ k, 0 < k → k < n → (k - 1) / 2 ≠ i → aT l ((k - 1) / 2) ≤ aT l k
  b : ∀ k, 0 < k → k < n → (k - 1) / 2 = i → 0 < i → aT l ((i - 1) / 2) ≤ aT l k
/-- The lesser of the two below. -/
def lsr (n : Nat) (l : List Int) (i : Nat) : Nat := if 2 * i + 2 < n ∧ aT l (2 * i + 2) < aT l (2 * i + 1) then 2 * i + 2 else 2 * i + 1
theorem HDn.stop {n : Nat} {l : List Int} {i : Nat} (h : HDn n l i) (hs : n ≤ 2 * i + 1 ∨ aT l i ≤ aT l (lsr n l i)) : HP n l := by
  intro k h0 hk
  by_cases e : (k - 1) / 2 = i
  · rw [e]
    rcases hs with e2 | e2
    · omega
    · unfold lsr at e2
      have : k = 2 * i + 1 ∨ k = 2 * i + 2 := by omega
      split at e2
      · rename_i q
        rcases this with e3 | e3
        · rw [e3]; omega
        · rw [e3]; exact e2
      · rename_i q
        rcases this with e3 | e3
        · rw [e3]; exact e2
        · rw [e3] at hk ⊢
          have : ¬ aT l (2 * i + 2) < aT l (2 * i + 1) := fun x => q ⟨hk, x⟩
          omega
  · exact h.a k h0 hk e
theorem lsr_lt {n : Nat} {l : List Int} {i : Nat} (h : 2 * i + 1 < n) : lsr n l i < n ∧ i < lsr n l i ∧ (lsr n l i - 1) / 2 = i := by
  unfold lsr
  split
  · rename_i q; omega
  · omega
theorem HDn.step {n : Nat} {l : List Int} {i : Nat} (h : HDn n l i) (hn : n ≤ l.length) (hi : 2 * i + 1 < n) (hl : aT l (lsr n l i) < aT l i) : HDn n (sw l i (lsr n l i)) (lsr n l i) := by
  obtain ⟨j1, j2, j3⟩ := lsr_lt (l := l) hi
  have low : ∀ k, 0 < k → k < n → (k - 1) / 2 = i → aT l (lsr n l i) ≤ aT l k := by
    intro k k0 hk e
    have : k = 2 * i + 1 ∨ k = 2 * i + 2 := by omega
    unfold lsr
    split
    · rename_i q
      rcases this with e3 | e3 <;> rw [e3] <;> omega
    · rename_i q
      rcases this with e3 | e3
      · rw [e3]; exact Int.le_refl _
      · rw [e3] at hk ⊢
        have : ¬ aT l (2 * i + 2) < aT l (2 * i + 1) := fun x => q ⟨hk, x⟩
        omega
  have S := sw_at (l := l) (i := i) (j := lsr n l i) (by omega) (by omega)
  generalize lsr n l i = j at *
  refine ⟨fun k k0 hk hne => ?_, fun k k0 hk e hj0 => ?_⟩
  · rw [S, S]
    by_cases e1 : k = j
    · subst e1
      rw [if_neg (by omega), if_pos j3, if_pos rfl]
      omega
    · rw [if_neg e1, if_neg hne]
      by_cases e2 : (k - 1) / 2 = i
      · rw [if_pos e2]
        rw [if_neg (by omega)]
        exact low k k0 hk e2
      · rw [if_neg e2]
        by_cases e3 : k = i
        · rw [if_pos e3]
          have := h.b j (by omega) j1 j3 (by omega)
          rw [e3]
          exact this
        · rw [if_neg e3]
          exact h.a k k0 hk e2
  · rw [S, S]
    rw [j3, if_neg (by omega), if_pos rfl, if_neg (by omega), if_neg (by omega)]
    have := h.a k k0 hk (by omega)
    rw [e] at this
    exact this
/-- What stands in a heap. -/
structure HS (l : List Int) : Prop where
  h : HP l.length l
  n : NJ l
theorem HS.nil : HS [] := ⟨fun k _ h => by simp at h, fun i j h => by simp at h⟩
theorem at_app {l : List Int} {x : Int} {k : Nat} : aT (l ++ [x]) k = if k < l.length then aT l k else if k = l.length then x else 0 := by
  unfold aT
  rw [List.getD_eq_getElem?_getD, List.getElem?_append]
  split
  · simp
  · rename_i h
    by_cases e : k = l.length
    · subst e; simp
    · rw [if_neg e, List.getElem?_eq_none (by simp; omega)]
      rfl
theorem HS.more {l : List Int} {x : Int} (h : HS l) (hx : x ∉ l) : HU (l ++ [x]).length (l ++ [x]) l.length ∧ NJ (l ++ [x]) := by
  refine ⟨⟨fun k k0 hk hne => ?_, fun k k0 hk e _ => ?_⟩, fun i j hi hj e => ?_⟩
  · rw [List.length_append, List.length_singleton] at hk
    rw [at_app, at_app, if_pos (by omega), if_pos (by omega)]
    exact h.h k k0 (by omega)
  · rw [List.length_append, List.length_singleton] at hk
    omega
  · rw [List.length_append, List.length_singleton] at hi hj
    rw [at_app, at_app] at e
    by_cases e1 : i < l.length
    · rw [if_pos e1] at e
      by_cases e2 : j < l.length
      · rw [if_pos e2] at e
        exact h.n i j e1 e2 e
      · rw [if_neg e2, if_pos (by omega)] at e
        exact absurd (mem_at.2 ⟨i, e1, e⟩) hx
    · rw [if_neg e1, if_pos (by omega)] at e
      by_cases e2 : j < l.length
      · rw [if_pos e2] at e
        exact absurd (mem_at.2 ⟨j, e2, e.symm⟩) hx
      · omega
theorem at_take {l : List Int} {n k : Nat} (h : k < n) : aT (l.take n) k = aT l k := by
  unfold aT
  rw [List.getD_eq_getElem?_getD, List.getD_eq_getElem?_getD, List.getElem?_take, if_pos h]
/-- The first is taken out: the last comes into its place, and goes down. -/
theorem HS.less {l : List Int} (h : HS l) (hn : 0 < l.length) : HDn (l.length - 1) (sw l 0 (l.length - 1)) 0 ∧ NJ (sw l 0 (l.length - 1)) ∧ aT (sw l 0 (l.length - 1)) (l.length - 1) = aT l 0 := by
  have S := sw_at (l := l) (i := 0) (j := l.length - 1) hn (by omega)
  refine ⟨⟨fun k k0 hk hne => ?_, fun k k0 hk e h0 => by omega⟩, sw_nj hn (by omega) h.n, ?_⟩
  · rw [S, S, if_neg (by omega), if_neg (by omega), if_neg (by omega), if_neg (by omega)]
    exact h.h k k0 (by omega)
  · rw [S, if_pos rfl]
/-- When it has gone down, what is left without the last is a heap of all but the first. -/
theorem HS.left {l m : List Int} (h : HS l) (hn : 0 < l.length) (hm : m.length = l.length) (hp : HP (l.length - 1) m) (hj : NJ m) (he : aT m (l.length - 1) = aT l 0) (hs : ∀ x, x ∈ m ↔ x ∈ l) : HS (m.take (l.length - 1)) ∧ (∀ x, x ∈ m.take (l.length - 1) ↔ x ∈ l ∧ x ≠ aT l 0) ∧ ∀ x ∈ l, aT l 0 ≤ x := by
  have hlen : (m.take (l.length - 1)).length = l.length - 1 := by rw [List.length_take]; omega
  refine ⟨⟨fun k k0 hk => ?_, fun i j hi hj2 e => ?_⟩, fun x => ?_, fun x hx => ?_⟩
  · rw [hlen] at hk
    rw [at_take (by omega), at_take hk]
    exact hp k k0 hk
  · rw [hlen] at hi hj2
    rw [at_take hi, at_take hj2] at e
    exact hj i j (by omega) (by omega) e
  · rw [mem_at, ← hs, mem_at, hlen, ← he]
    constructor
    · rintro ⟨k, hk, e⟩
      rw [at_take hk] at e
      refine ⟨⟨k, by omega, e⟩, fun e2 => ?_⟩
      have := hj k (l.length - 1) (by omega) (by omega) (e.trans e2)
      omega
    · rintro ⟨⟨k, hk, e⟩, hne⟩
      have : k ≠ l.length - 1 := fun e2 => hne (by rw [← e, e2])
      exact ⟨k, by omega, by rw [at_take (by omega)]; exact e⟩
  · obtain ⟨k, hk, e⟩ := mem_at.1 hx
    rw [← e]
    exact h.h.first k hk
end Go.Proofs.YtjmbfjaahadbhaaGreatDoor
namespace Go.Proofs.YtjmbfjaahadbhaaGreatDoor
open Go.RowKit (wrap32 wrap64)

/-! ### the heap of those that can be numbered -/
/-- The list that is a heap, in its variable. -/
def Hp (w : World) (B bx : Nat) (l : List Int) : Prop := ∃ hv, w.heap[bx]? = some (.cells #[hv] 78) ∧ IOwn w B hv l
theorem Hp.stay {w w' : World} {B bx : Nat} {l : List Int} (h : Hp w B bx l) (f : Fr (fun _ => False) w w') : Hp w' B bx l := by
  obtain ⟨hv, h1, h2⟩ := h
  exact ⟨hv, keepF h1 f, h2.fr f (fun _ _ e => e)⟩
theorem hlen_any (hv : Value) (B : Nat) (l : List Int) (w : World) (h : IOwn w B hv l) (hl : l.length ≤ 1000000000) : Calls Tryz.prog 47 #[hv] w fun e w' => e = .returned (vI (l.length : Int)) ∧ w' = w := by
  obtain ⟨a, c, rfl⟩ := iown_cap h
  clear h
  go_enter Tryz.func47, Tryz.ntmps47
  go_wp2_with fail
  go_ret
  exact ⟨rfl, rfl⟩
theorem less_any (hv : Value) (B : Nat) (l : List Int) (i j : Nat) (w : World) (h : IOwn w B hv l) (hi : i < l.length) (hj : j < l.length) (hl : l.length ≤ 1000000000) : Calls Tryz.prog 117 #[hv, vI (i : Int), vI (j : Int)] w fun e w' => e = .returned (.bool (decide (aT l i < aT l j))) ∧ Fr (fun _ => False) w w' := by
  obtain ⟨g, c, rfl, -, hc⟩ := iown_some h (by omega)
  have ei : l[i] = aT l i := by simp [aT, List.getD_eq_getElem?_getD, hi]
  have ej : l[j] = aT l j := by simp [aT, List.getD_eq_getElem?_getD, hj]
  have p1 := hc i hi
  have p2 := hc j hj
  rw [ei] at p1
  rw [ej] at p2
  have i0 : (0 : Int) ≤ i := by omega
  have i1 : (i : Int) < l.length := by omega
  have j0 : (0 : Int) ≤ j := by omega
  have j1 : (j : Int) < l.length := by omega
  generalize aT l i = x at *
  generalize aT l j = y at *
  clear h hc ei ej
  go_enter Tryz.func117, Tryz.ntmps117
  go_upto_region 1 with fail
  go_quiet (fail)
  have fW : Fr (fun _ => False) w (w.drewN nq) := ⟨rfl, rfl, rfl, Nat.le_refl _, fun _ _ _ => rfl⟩
  go_wp2_with fail
  go_ret
  exact ⟨rfl, fW⟩
theorem meth_push (a : Addr) (w : World) : (method 251 80 (.pointer (some a)) "Push").run Tryz.prog w = .ok (120, .pointer (some a)) w := by kernel_rfl
theorem meth_pop (a : Addr) (w : World) : (method 251 80 (.pointer (some a)) "Pop").run Tryz.prog w = .ok (119, .pointer (some a)) w := by kernel_rfl
theorem meth_len0 (a : Addr) (w : World) : (method 251 80 (.pointer (some a)) "Len").run Tryz.prog w = (do let v ← loadVar 78 a; pure (47, v) : Sem (FuncId × Value)).run Tryz.prog w := by kernel_rfl
theorem meth_less0 (a : Addr) (w : World) : (method 251 80 (.pointer (some a)) "Less").run Tryz.prog w = (do let v ← loadVar 78 a; pure (117, v) : Sem (FuncId × Value)).run Tryz.prog w := by kernel_rfl
theorem meth_swap0 (a : Addr) (w : World) : (method 251 80 (.pointer (some a)) "Swap").run Tryz.prog w = (do let v ← loadVar 78 a; pure (118, v) : Sem (FuncId × Value)).run Tryz.prog w := by kernel_rfl
theorem load92 {bx : Nat} {hv : Value} {w : World} (h : w.cell? ⟨bx, 0, none⟩ = some hv) : (loadVar 78 ⟨bx, 0, none⟩).run Tryz.prog w = .ok hv w := by go_simp
theorem meth_len {bx : Nat} {hv : Value} {w : World} (h : w.cell? ⟨bx, 0, none⟩ = some hv) : (method 251 80 (.pointer (some ⟨bx, 0, none⟩)) "Len").run Tryz.prog w = .ok (47, hv) w := by rw [meth_len0, Sem.run_bind, load92 h]; rfl
theorem meth_less {bx : Nat} {hv : Value} {w : World} (h : w.cell? ⟨bx, 0, none⟩ = some hv) : (method 251 80 (.pointer (some ⟨bx, 0, none⟩)) "Less").run Tryz.prog w = .ok (117, hv) w := by rw [meth_less0, Sem.run_bind, load92 h]; rfl
theorem meth_swap {bx : Nat} {hv : Value} {w : World} (h : w.cell? ⟨bx, 0, none⟩ = some hv) : (method 251 80 (.pointer (some ⟨bx, 0, none⟩)) "Swap").run Tryz.prog w = .ok (118, hv) w := by rw [meth_swap0, Sem.run_bind, load92 h]; rfl
theorem iown_set {w : World} {B g c : Nat} {l : List Int} (h : IOwn w B (.slice (some ⟨g, 0, none⟩) l.length c) l) (j : Nat) (x : Int) : IOwn (w.setCell ⟨g, j, none⟩ (vI x)) B (.slice (some ⟨g, 0, none⟩) (l.set j x).length c) (l.set j x) ∧ w.frozen? ⟨g, j, none⟩ = false := by
  have := row_set (j := j) h (vI x)
  unfold IOwn
  rw [List.length_set, List.map_set]
  exact this
set_option maxRecDepth 100000 in
set_option maxHeartbeats 2000000 in
theorem swap_any (hv : Value) (B : Nat) (l : List Int) (i j : Nat) (w : World) (h : IOwn w B hv l) (hi : i < l.length) (hj : j < l.length) (hl : l.length ≤ 1000000000) : Calls Tryz.prog 118 #[hv, vI (i : Int), vI (j : Int)] w fun e w' => e = .returned (.tuple #[]) ∧ IOwn w' B hv (sw l i j) ∧ Fr (fun k => hv.ownBlock = some k) w w' := by
  obtain ⟨g, c, rfl, -, hc⟩ := iown_some h (by omega)
  have ei : l[i] = aT l i := by simp [aT, List.getD_eq_getElem?_getD, hi]
  have ej : l[j] = aT l j := by simp [aT, List.getD_eq_getElem?_getD, hj]
  have p1 := hc i hi
  have p2 := hc j hj
  rw [ei] at p1
  rw [ej] at p2
  obtain ⟨h1, z1⟩ := iown_set h i (aT l j)
  obtain ⟨h2, z2⟩ := iown_set h1 j (aT l i)
  obtain ⟨g', c', e', -, hc1⟩ := iown_some h1 (by rw [List.length_set]; omega)
  have eg : g' = g := by injection e' with e1; injection e1 with e1; injection e1 with e1; exact e1.symm
  subst eg
  have p3 := hc1 j (by rw [List.length_set]; exact hj)
  generalize hq : (l.set i (aT l j))[j]'(by rw [List.length_set]; exact hj) = q at p3
  have i0 : (0 : Int) ≤ i := by omega
  have i1 : (i : Int) < l.length := by omega
  have j0 : (0 : Int) ≤ j := by omega
  have j1 : (j : Int) < l.length := by omega
  have HE : Hd (IOwn ((w.setCell ⟨g', i, none⟩ (vI (aT l j))).setCell ⟨g', j, none⟩ (vI (aT l i))).drew B (.slice (some ⟨g', 0, none⟩) l.length c) (sw l i j) ∧ Fr (fun k => (Value.slice (some ⟨g', 0, none⟩) l.length c).ownBlock = some k) w ((w.setCell ⟨g', i, none⟩ (vI (aT l j))).setCell ⟨g', j, none⟩ (vI (aT l i))).drew) := by
    refine ⟨?_, (((setCell_fr w g' i _).trans (setCell_fr _ g' j _)).drew).mono (fun k _ e => by rw [e]; rfl)⟩
    rw [List.length_set, List.length_set] at h2
    exact h2.fr ((Fr.refl (fun _ => False) _).drew) (fun _ _ e => e)
  have z2d : (w.setCell ⟨g', i, none⟩ (vI (aT l j))).drew.frozen? ⟨g', j, none⟩ = false := z2
  have p3d : (w.setCell ⟨g', i, none⟩ (vI (aT l j))).drew.cell? ⟨g', j, none⟩ = some (vI q) := p3
  generalize aT l i = x at *
  generalize aT l j = y at *
  clear h hc ei ej h1 h2 e' hc1 hq
  go_enter Tryz.func118, Tryz.ntmps118
  go_upto_region 0 with fail
  go_region
  go_wp2_with fail
  go_end0
  exact ⟨rfl, HE.out⟩

theorem under92 : Tryz.prog.underlying 78 = some (.slice 3) := by kernel_rfl
set_option maxRecDepth 100000 in
set_option maxHeartbeats 2000000 in
/-- One number more behind the others. -/
theorem push_any (B bx : Nat) (l : List Int) (x : Int) (w : World) (h : Hp w B bx l) (hbx : bx < B) (hBw : B ≤ w.heap.size) (hl : l.length ≤ 1000000000) :
    Calls Tryz.prog 120 #[.pointer (some ⟨bx, 0, none⟩), .iface 3 (vI x)] w fun e w' => e = .returned (.tuple #[]) ∧ Hp w' B bx (l ++ [x]) ∧ Fr (fun k => k = bx ∨ B ≤ k) w w' := by
  obtain ⟨hv, h1, h2⟩ := h
  obtain ⟨va, vc, rfl⟩ := iown_cap h2
  have c0 : w.cell? ⟨bx, 0, none⟩ = some (.slice va l.length vc) := by rw [cell_of0 h1]; rfl
  have hCz : Fr (fun _ => False) w (w.alloc (.cells #[vI x] 3)).drew := (Fr.alloc (Fr.refl _ w) _).drew
  have HFz : Hd (Fr (fun _ => False) w (w.alloc (.cells #[vI x] 3)).drew) := hCz
  have HB1 : Hd (w.heap[bx]? = some (.cells #[.slice va l.length vc] 78)) := h1
  have HRW : Hd ((w.alloc (.cells #[vI x] 3)).drew.ownsRow B 3 1 (.slice va l.length vc) l.length (l.map vI)) := ownsRow_frL h2 hCz (fun _ _ e => e)
  have HNW : Hd (∀ j' u, [vI x][j']? = some u → (w.alloc (.cells #[vI x] 3)).drew.cell? ((⟨w.heap.size, 0, none⟩ : Addr).add j') = some u) := World.news_of_block (w := w.alloc (.cells #[vI x] 3)) (cs := #[vI x]) (heap_new0 w _)
  have HSZ : Hd ((w.alloc (.cells #[vI x] 3)).drew.heap.size = w.heap.size + 1) := by unfold Hd; show (w.alloc (.cells #[vI x] 3)).heap.size = _; rw [World.size_alloc]
  have HBS : Hd (B ≤ (w.alloc (.cells #[vI x] 3)).drew.heap.size) := by have := HSZ.out; unfold Hd; omega
  have HGE : Hd (∀ k, (Value.slice va l.length vc).ownBlock = some k → B ≤ k) := fun k e => (h2.ge k e).1
  have c0z : (w.alloc (.cells #[vI x] 3)).drew.cell? ⟨bx, 0, none⟩ = some (.slice va l.length vc) := (hCz.cell (heap_lt0 h1) (fun e => e)).trans c0
  have c0y : (w.alloc (.cells #[vI x] 3)).cell? ⟨bx, 0, none⟩ = some (.slice va l.length vc) := c0z
  have hta : ∀ W : World, (Instr.typeAssert (.iface 3 (vI x)) 20 3 false).run Tryz.prog W = .ok (vI x) W := fun _ => by kernel_rfl
  clear hCz h1 h2
  go_enter Tryz.func120, Tryz.ntmps120
  go_upto_region 0 with fail
  go_region_law ((
    obtain ⟨i3, hi3, hz3, hs3, hb3⟩ := info_parts (P := Tryz.prog) (e := 3) (z := .int .i64 0) (size := 1) (bytes := 8) (by kernel_rfl)
    refine step_append_lies _ rfl (.tmp 7) (.tmp 10) 78 rfl B 3 i3 (.int .i64 0) 1 8 under92 hi3 hz3 hs3 hb3 rfl (by omega) (.slice va l.length vc) l.length _ (by simp [Act.eval, Act.put]) HRW.out ⟨w.heap.size, 0, none⟩ 1 1 [vI x] (by simp [Act.eval, Act.put]) rfl HNW.out (by intro u hu; simp at hu; subst hu; rfl) (by omega) (by unfold maxLen; omega) (by omega) HBS.out (w.heap.size + 1) (by simp) ?_
    intro g6 cap6 w9 hown6 hgrow6 hat6 hlt6
    have f9 : Fr (fun k => B ≤ k) w w9 := (HFz.out.mono (fun _ _ e => e.elim)).trans ((grown_frL hgrow6).mono (fun k _ e => HGE.out k e))
    have hb9 : w9.heap[bx]? = some (.cells #[.slice va l.length vc] 78) := (f9.block bx (heap_lt0 HB1.out) (by omega)).trans HB1.out
    have c09 : w9.cell? ⟨bx, 0, none⟩ = some (.slice va l.length vc) := by rw [cell_of0 hb9]; rfl
    have z09 : w9.frozen? ⟨bx, 0, none⟩ = false := frozen_of hb9 0
    have HQ : Hd (Hp (w9.setCell ⟨bx, 0, none⟩ (.slice (some ⟨g6, 0, none⟩) (l.length + 1) cap6)) B bx (l ++ [x]) ∧ Fr (fun k => k = bx ∨ B ≤ k) w (w9.setCell ⟨bx, 0, none⟩ (.slice (some ⟨g6, 0, none⟩) (l.length + 1) cap6))) := by
      have ho : IOwn w9 B (.slice (some ⟨g6, 0, none⟩) (l.length + 1) cap6) (l ++ [x]) := by unfold IOwn; simpa using hown6
      refine ⟨⟨_, set_of hb9 0 _, ho.fr (setCell_fr w9 bx 0 _) (fun k e e2 => by have := (ho.ge k e).1; omega)⟩, (f9.mono (fun _ _ e => Or.inr e)).trans ((setCell_fr w9 bx 0 _).mono (fun _ _ e => Or.inl e))⟩
    clear hown6 hgrow6 hat6 hlt6 hi3 hz3 hs3 hb3 f9 hb9))
  all_goals
    go_wp2_with fail
    go_end0
    exact ⟨rfl, HQ.out⟩
set_option maxRecDepth 100000 in
set_option maxHeartbeats 2000000 in
/-- The last is taken away. -/
theorem pop_any (B bx m : Nat) (l : List Int) (w : World) (h : Hp w B bx l) (hbx : bx < B) (hm : l.length = m + 1) (hl : l.length ≤ 1000000000) :
    Calls Tryz.prog 119 #[.pointer (some ⟨bx, 0, none⟩)] w fun e w' => e = .returned (.iface 3 (vI (aT l m))) ∧ Hp w' B bx (l.take m) ∧ Fr (fun k => k = bx ∨ B ≤ k) w w' := by
  obtain ⟨hv, h1, h2⟩ := h
  obtain ⟨g, c, rfl, hcap, hc⟩ := iown_some h2 (by omega)
  have em : l[m]'(by omega) = aT l m := by simp [aT, List.getD_eq_getElem?_getD, show m < l.length by omega]
  have p1 := hc m (by omega)
  rw [em] at p1
  have hcut := iown_cut h2 (m := m) (by omega) rfl
  rw [hm] at h1 h2 hcap
  have c0 : w.cell? ⟨bx, 0, none⟩ = some (.slice (some ⟨g, 0, none⟩) (m + 1) c) := by rw [cell_of0 h1]; rfl
  have z0 : w.frozen? ⟨bx, 0, none⟩ = false := frozen_of h1 0
  have q1 : ((m + 1 : Nat) : Int) - 1 = (m : Int) := by omega
  have q0 : (0 : Int) ≤ (m : Int) := by omega
  have q2 : (m : Int) < ((m + 1 : Nat) : Int) := by omega
  have q3 : (m : Int) < (m : Int) + 1 := by omega
  have q4 : (m : Int) ≤ (c : Int) := by omega
  have HE : Hd (Hp (w.setCell ⟨bx, 0, none⟩ (.slice (some ⟨g, 0, none⟩) m c)) B bx (l.take m) ∧ Fr (fun k => k = bx ∨ B ≤ k) w (w.setCell ⟨bx, 0, none⟩ (.slice (some ⟨g, 0, none⟩) m c))) := ⟨⟨_, set_of h1 0 _, hcut.fr (setCell_fr w bx 0 _) (fun k e e2 => by have := (hcut.ge k e).1; omega)⟩, (setCell_fr w bx 0 _).mono (fun _ _ e => Or.inl e)⟩
  have hmb : m ≤ 1000000000 := by omega
  generalize aT l m = y at *
  clear h1 h2 hc em hcut hcap hm
  go_enter Tryz.func119, Tryz.ntmps119
  go_wp2_with fail
  go_ret
  exact ⟨rfl, HE.out⟩

abbrev rdI (bx : Nat) : Value := .iface 80 (.pointer (some ⟨bx, 0, none⟩))
/-- The heap as it is put right: the same numbers, each once. -/
structure Hq (w0 w : World) (B bx : Nat) (l0 l : List Int) : Prop where
  hp : Hp w B bx l
  nj : NJ l
  mm : ∀ x, x ∈ l ↔ x ∈ l0
  ln : l.length = l0.length
  ff : Fr (fun k => k = bx ∨ B ≤ k) w0 w
theorem Hq.swap {w0 w w' : World} {B bx : Nat} {l0 l : List Int} {i j : Nat} {hv : Value} (h : Hq w0 w B bx l0 l) (hbx : bx < B) (hi : i < l.length) (hj : j < l.length) (hb : w.heap[bx]? = some (.cells #[hv] 78)) (ho : IOwn w B hv l) (ho' : IOwn w' B hv (sw l i j)) (f : Fr (fun k => hv.ownBlock = some k) w w') : Hq w0 w' B bx l0 (sw l i j) := by
  have hge : ∀ k, hv.ownBlock = some k → B ≤ k := fun k e => (ho.ge k e).1
  refine ⟨⟨hv, (f.block bx (heap_lt0 hb) (fun e => by have := hge bx e; omega)).trans hb, ho'⟩, sw_nj hi hj h.nj, fun x => by rw [sw_mem hi hj]; exact h.mm x, by rw [sw_len]; exact h.ln, h.ff.trans (f.mono (fun k _ e => Or.inr (hge k e)))⟩
theorem Hq.quiet {w0 w w' : World} {B bx : Nat} {l0 l : List Int} (h : Hq w0 w B bx l0 l) (f : Fr (fun _ => False) w w') : Hq w0 w' B bx l0 l := ⟨h.hp.stay f, h.nj, h.mm, h.ln, h.ff.trans (f.mono (fun _ _ e => e.elim))⟩
set_option maxRecDepth 100000 in
set_option maxHeartbeats 4000000 in
/-- The last goes up to its place. -/
theorem up_any (B bx j : Nat) (l : List Int) (w : World) (h : Hp w B bx l) (hbx : bx < B) (hu : HU l.length l j) (hn : NJ l) (hj : j < l.length) (hl : l.length ≤ 1000000) :
    Calls Tryz.prog 68 #[rdI bx, vI (j : Int)] w fun e w' => e = .returned (.tuple #[]) ∧ ∃ l', Hq w w' B bx l l' ∧ HP l'.length l' := by
  have HQ0 : Hd (Hq w w B bx l l ∧ HU l.length l j) := ⟨⟨h, hn, fun _ => Iff.rfl, rfl, Fr.refl _ _⟩, hu⟩
  clear h hu hn
  go_enter Tryz.func68, Tryz.ntmps68
  go_wp2_with fail
  go_loopg [1] j (fun gg v wr => ∃ (k : Nat) (l1 : List Int), v = vI (k : Int) ∧ Hd (k = gg) ∧ k < l.length ∧ Hd (Hq w wr B bx l l1 ∧ HU l1.length l1 k))
  case atStart => exact ⟨j, l, rfl, rfl, hj, HQ0.out⟩
  case round =>
    clear HQ0
    obtain ⟨k, l1, rfl, HG, hk, HQ⟩ := hrel
    obtain ⟨hq, hu⟩ := HQ.out
    obtain ⟨hv, hb, ho⟩ := id hq.hp
    have hl1 := hq.ln
    have hkl : k < l1.length := by omega
    have hil : (k - 1) / 2 < l1.length := by omega
    have c0 : wr.cell? ⟨bx, 0, none⟩ = some hv := by rw [cell_of0 hb]; rfl
    have ml := meth_less c0
    have ms := meth_swap c0
    obtain ⟨p, hp⟩ : ∃ p, p = (k - 1) / 2 := ⟨_, rfl⟩
    have qd : ((k : Int) - 1).tdiv 2 = (p : Int) := by
      rw [hp]
      by_cases e : k = 0
      · subst e; rfl
      · rw [show (k : Int) - 1 = ((k - 1 : Nat) : Int) by omega]
        rfl
    have HPK : Hd (p = (k - 1) / 2) := hp
    have hpl : p < l1.length := by omega
    have HX : Hd (∀ hs : k = 0 ∨ aT l1 ((k - 1) / 2) ≤ aT l1 k, ∀ W, Fr (fun _ => False) wr W → ∃ l', Hq w W B bx l l' ∧ HP l'.length l') := fun hs W fW => ⟨l1, hq.quiet fW, hu.stop hs⟩
    by_cases hk0 : k = 0
    · have hpk : p = k := by omega
      have HE : Hd (∃ l', Hq w wr B bx l l' ∧ HP l'.length l') := HX.out (Or.inl hk0) wr (Fr.refl _ _)
      have hkb : (k : Int) < 1000000 := by omega
      clear hq hu hb ho hl1 hkl hil hp hpl HQ hk0 ml ms c0 HX HG HPK
      subst hpk
      go_wp2_with fail
      go_end0
      exact ⟨rfl, HE.out⟩
    · have e0 : ((p : Int) == (k : Int)) = false := by simp; omega
      have HLS : Hd (Calls Tryz.prog 117 #[hv, vI (k : Int), vI (p : Int)] wr fun e w' => e = .returned (.bool (decide (aT l1 k < aT l1 p))) ∧ Fr (fun _ => False) wr w') := less_any hv B l1 k p wr ho hkl hpl (by omega)
      have hkb : (k : Int) < 1000000 := by omega
      have HQ1 : Hd (Hq w wr B bx l l1) := hq
      have HU1 : Hd (HU l1.length l1 k) := hu
      have HBO : Hd (wr.heap[bx]? = some (.cells #[hv] 78) ∧ IOwn wr B hv l1) := ⟨hb, ho⟩
      have HK0 : Hd (¬ k = 0) := hk0
      by_cases hlt : aT l1 k < aT l1 p
      · have d0 : decide (aT l1 k < aT l1 p) = true := decide_eq_true hlt
        have HLT : Hd (aT l1 k < aT l1 p) := hlt
        rw [d0] at HLS
        clear hq hu hb ho hil hp hk0 hlt d0 HQ
        go_wp2_with fail
        refine Calls.mono HLS.out ?_
        rintro e w2 ⟨rfl, hF2⟩
        have hb2 : w2.heap[bx]? = some (.cells #[hv] 78) := keepF HBO.out.1 hF2
        have ho2 : IOwn w2 B hv l1 := HBO.out.2.fr hF2 (fun _ _ e => e)
        have c2 : w2.cell? ⟨bx, 0, none⟩ = some hv := by rw [cell_of0 hb2]; rfl
        have ms2 := meth_swap c2
        have HSW : Hd (Calls Tryz.prog 118 #[hv, vI (p : Int), vI (k : Int)] w2 fun e w' => e = .returned (.tuple #[]) ∧ IOwn w' B hv (sw l1 p k) ∧ Fr (fun j => hv.ownBlock = some j) w2 w') := swap_any hv B l1 p k w2 ho2 hpl hkl (by omega)
        have HB2 : Hd (w2.heap[bx]? = some (.cells #[hv] 78) ∧ IOwn w2 B hv l1 ∧ Hq w w2 B bx l l1) := ⟨hb2, ho2, HQ1.out.quiet hF2⟩
        clear hF2 HLS ml ms c0 c2 hb2 ho2
        go_wp2_with fail
        refine Calls.mono HSW.out ?_
        rintro e w3 ⟨rfl, ho3, hF3⟩
        have HQ3 : Hd (Hq w w3 B bx l (sw l1 p k) ∧ HU (sw l1 p k).length (sw l1 p k) p) := by
          have hlp := HLT.out
          refine ⟨HB2.out.2.2.swap hbx hpl hkl HB2.out.1 HB2.out.2.1 ho3 hF3, ?_⟩
          rw [sw_len]
          rw [HPK.out] at hlp ⊢
          have := HK0.out
          exact HU1.out.step hkl (by omega) hlp
        clear ho3 hF3 HSW ms2
        go_wp2_with fail
        go_roundg p
        case measure => have := HG.out; have := HPK.out; have := HK0.out; omega
        case rel => exact ⟨p, sw l1 p k, rfl, rfl, by omega, HQ3.out⟩
      · have d0 : decide (aT l1 k < aT l1 p) = false := decide_eq_false hlt
        have HE : Hd (∀ W, Fr (fun _ => False) wr W → ∃ l', Hq w W B bx l l' ∧ HP l'.length l') := HX.out (Or.inr (by rw [← hp]; exact Int.not_lt.1 hlt))
        rw [d0] at HLS
        clear hq hu hb ho hil hp hk0 hlt d0 HQ HX
        go_wp2_with fail
        refine Calls.mono HLS.out ?_
        rintro e w2 ⟨rfl, hF2⟩
        have HE2 : Hd (∃ l', Hq w w2 B bx l l' ∧ HP l'.length l') := HE.out w2 hF2
        clear hF2 HLS ml ms c0 HE
        go_wp2_with fail
        go_end0
        exact ⟨rfl, HE2.out⟩
end Go.Proofs.YtjmbfjaahadbhaaGreatDoor
