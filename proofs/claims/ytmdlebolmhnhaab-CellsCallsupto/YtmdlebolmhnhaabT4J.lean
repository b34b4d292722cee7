import Derived.Test.YtmdlebolmhnhaabT6
import Derived.Test.YtmdlebolmhnhaabQ4
namespace Go.Proofs.Ytmdlebolmhnhaab
open Go.RowKit (wrap32 wrap64)
open Go.Maps (Keyed)
set_option linter.unusedVariables false
set_option linter.unusedSimpArgs false

theorem Rel.make {a : Abs} {r : RA} (h : Rel a r) (n : Int) (heap : Bool) : (makeX a n heap).2 = (rmakeX r n heap).2 ∧ Rel (makeX a n heap).1 (rmakeX r n heap).1 := by
  by_cases hn : n < 1 ∨ 8 < n
  · have e1 : makeX a n heap = (a, 0, 1) := by unfold makeX; rw [if_pos hn]
    have e2 : rmakeX r n heap = (r, 0, 1) := by unfold rmakeX; rw [if_pos hn]
    rw [e1, e2]
    exact ⟨rfl, h⟩
  by_cases h0 : r.frs = []
  · have ha : a.frs = [] := List.length_eq_zero_iff.1 (by rw [h.frl, h0]; rfl)
    have e1 : makeX a n heap = (a, 0, 30) := by unfold makeX; rw [if_neg hn, if_pos ha]
    have e2 : rmakeX r n heap = (r, 0, 30) := by unfold rmakeX; rw [if_neg hn, if_pos h0]
    rw [e1, e2]
    exact ⟨rfl, h⟩
  have ha : a.frs ≠ [] := fun e => h0 (List.length_eq_zero_iff.1 (by rw [← h.frl, e]; rfl))
  obtain ⟨k, rfl⟩ := Int.eq_ofNat_of_zero_le (show 0 ≤ n by omega)
  obtain ⟨m, hm⟩ : ∃ m, r.frs.length = m + 1 := ⟨r.frs.length - 1, by have : 0 < r.frs.length := List.length_pos_iff.2 h0; omega⟩
  have ham : a.frs.length = m + 1 := h.frl.trans hm
  obtain ⟨l, hl⟩ : ∃ l, r.frs[m]? = some l := ⟨_, List.getElem?_eq_getElem (by omega)⟩
  have hml : m < r.frs.length := by omega
  have hmade := h.made
  obtain ⟨c, hcd⟩ : ∃ c : CellR, c = ⟨List.replicate k (0, 0), heap, true⟩ := ⟨_, rfl⟩
  have e1 : makeX a (k : Int) heap = (if heap then mkA a k else { mkA a k with pss := a.pss ++ [a.made + 1] }, ((a.made + 1 : Nat) : Int), 0) := by
    unfold makeX
    rw [if_neg hn, if_neg ha, Int.toNat_natCast]
  have e2 : rmakeX r (k : Int) heap = ({ r with cells := r.cells ++ [c], frs := r.frs.set m (l ++ [r.cells.length + 1]) }, (r.cells.length : Int) + 1, 0) := by
    unfold rmakeX
    rw [if_neg hn, if_neg h0, Int.toNat_natCast, hm, Nat.add_sub_cancel, List.getD_eq_getElem?_getD, hl, hcd]
    rfl
  rw [e1, e2]
  refine ⟨by simp only [Prod.mk.injEq, and_true]; omega, ?_⟩
  obtain ⟨A, hA⟩ : ∃ A, A = (if heap then mkA a k else { mkA a k with pss := a.pss ++ [a.made + 1] }) := ⟨_, rfl⟩
  have a1 : A.made = a.made + 1 := by rw [hA]; cases heap <;> rfl
  have a2 : A.frs = a.frs := by rw [hA]; cases heap <;> rfl
  have a3 : A.cells = upd a.cells (a.made + 1) (some (List.replicate k (0, 0))) := by rw [hA]; cases heap <;> rfl
  have a4 : A.pss = if heap then a.pss else a.pss ++ [a.made + 1] := by rw [hA]; cases heap <;> rfl
  have a5 : A.gl = a.gl := by rw [hA]; cases heap <;> rfl
  show Rel (if heap then mkA a k else { mkA a k with pss := a.pss ++ [a.made + 1] }) _
  rw [← hA]
  clear hA
  have fget : ∀ (t : Nat) (l' : List Nat), (r.frs.set m (l ++ [r.cells.length + 1]))[t]? = some l' → (t = m ∧ l' = l ++ [r.cells.length + 1]) ∨ (t ≠ m ∧ r.frs[t]? = some l') := fun t l' ht => by
    by_cases htm : t = m
    · subst htm
      rw [List.getElem?_set_self hml] at ht
      cases ht
      exact Or.inl ⟨rfl, rfl⟩
    · rw [List.getElem?_set_ne (Ne.symm htm)] at ht
      exact Or.inr ⟨htm, ht⟩
  have oldf : ∀ (p t : Nat) (l' : List Nat), r.frs[t]? = some l' → p ∈ l' → ∃ t2 l2, (r.frs.set m (l ++ [r.cells.length + 1]))[t2]? = some l2 ∧ p ∈ l2 := fun p t l' ht hp => by
    by_cases htm : t = m
    · subst htm
      rw [hl] at ht
      cases ht
      exact ⟨t, _, List.getElem?_set_self hml, List.mem_append_left _ hp⟩
    · exact ⟨t, l', by rw [List.getElem?_set_ne (Ne.symm htm)]; exact ht, hp⟩
  refine ⟨a5.trans h.gl, by simp [a1, hmade], fun i x hi => ?_, fun i hi => ?_, by rw [a2]; simp [h.frl], by rw [a2]; exact h.fsort, fun x hx => ?_, fun t l' ht p hp => ?_, ?_, fun i x hi hth hh => ?_, fun p hp => ?_⟩
  · rw [a3]
    unfold upd
    rcases snoc_get (show (r.cells ++ [c])[i]? = some x from hi) with ⟨hil, hi⟩ | ⟨rfl, rfl⟩
    · rw [if_neg (by omega)]
      exact h.cell i x hi
    · rw [if_pos (by omega), hcd]
      rfl
  · rw [a3] at hi
    unfold upd at hi
    split at hi
    · omega
    · have := h.inn i hi; omega
  · rw [a2] at hx; have := h.fmade x hx; omega
  · rw [a1, a2]
    rcases fget t l' ht with ⟨rfl, rfl⟩ | ⟨htm, ht⟩
    · rcases List.mem_append.1 hp with hp | hp
      · obtain ⟨p1, p2, p3, p4⟩ := h.num t l hl p hp
        exact ⟨p1, by omega, p3, p4⟩
      · simp at hp
        subst hp
        refine ⟨by omega, by omega, ⟨a.frs[t]'(by omega), List.getElem?_eq_getElem _, ?_⟩, fun y hy => ?_⟩
        · have := h.fmade _ (List.getElem_mem (show t < a.frs.length by omega))
          omega
        · have := (List.getElem?_eq_some_iff.1 hy).1
          omega
    · obtain ⟨p1, p2, p3, p4⟩ := h.num t l' ht p hp
      exact ⟨p1, by omega, p3, p4⟩
  · rw [a4]
    cases heap
    · refine List.pairwise_append.2 ⟨h.psort, List.pairwise_singleton _ _, fun x hx y hy => ?_⟩
      simp at hy
      subst hy
      obtain ⟨i, c2, -, -, rfl, hi, -⟩ := h.pis x hx
      have := (List.getElem?_eq_some_iff.1 hi).1
      omega
    · exact h.psort
  · rw [a4]
    rcases snoc_get (show (r.cells ++ [c])[i]? = some x from hi) with ⟨hil, hi⟩ | ⟨rfl, rfl⟩
    · have := h.pin i x hi hth hh
      cases heap <;> simp [this]
    · rw [hcd] at hh
      have hh : heap = false := hh
      subst hh
      simp [hmade]
  · rw [a4] at hp
    have old : p ∈ a.pss → ∃ (i : Nat) (c2 : CellR) (t : Nat) (l2 : List Nat), p = i + 1 ∧ (r.cells ++ [c])[i]? = some c2 ∧ c2.heap = false ∧ (r.frs.set m (l ++ [r.cells.length + 1]))[t]? = some l2 ∧ p ∈ l2 := fun hp => by
      obtain ⟨i, c2, t, l2, q1, q2, q3, q4, q5⟩ := h.pis p hp
      obtain ⟨t2, l3, q6, q7⟩ := oldf p t l2 q4 q5
      exact ⟨i, c2, t2, l3, q1, by rw [List.getElem?_append_left (List.getElem?_eq_some_iff.1 q2).1]; exact q2, q3, q6, q7⟩
    cases heap
    · simp at hp
      rcases hp with hp | hp
      · exact old hp
      · exact ⟨r.cells.length, c, m, l ++ [r.cells.length + 1], by omega, by rw [List.getElem?_append_right (Nat.le_refl _)]; simp, by rw [hcd], List.getElem?_set_self hml, by simp; omega⟩
    · exact old hp

end Go.Proofs.Ytmdlebolmhnhaab

namespace Go.Proofs.Ytmdlebolmhnhaab
open Go.RowKit (wrap32 wrap64)
open Go.Maps (Keyed)
set_option linter.unusedVariables false
set_option linter.unusedSimpArgs false

/-- make([]int, n). -/
theorem makeInts (n : Nat) (hn : n ≤ 16000000) (w : World) : ∃ w', (Instr.makeSlice 29 (.int .i64 (n : Int)) (.int .i64 (n : Int))).run Try.prog w = .ok (.slice (some ⟨w.heap.size, 0, none⟩) n n) w' ∧
    w'.ownsRow w.heap.size 3 1 (.slice (some ⟨w.heap.size, 0, none⟩) n n) n (List.replicate n (vI 0)) ∧ Fr (fun _ => False) w w' := by
  obtain ⟨i, hi, hz, hs, hb⟩ := info_parts (P := Try.prog) (e := 3) (z := .int .i64 0) (size := 1) (bytes := 8) (by kernel_rfl)
  obtain ⟨w', h1, h2, h3⟩ := run_makeSlice_full (P := Try.prog) w w.heap.size 29 3 i (.int .i64 0) 1 under39 hi hz hs .i64 .i64 n (by omega) (by rw [hb]; omega) (by unfold maxLen; omega) (Nat.le_refl _)
  refine ⟨w', h1, ?_, (grown_fr h3).mono (fun k _ e => by cases e)⟩
  have e : (madeCells (Value.int .i64 0).cells (n * 1)).toList = List.replicate n (vI 0) := by
    rw [Nat.mul_one]
    apply List.ext_getElem?
    intro j
    simp only [madeCells]
    by_cases hj : j < n
    · simp [hj, Value.cells, Nat.mod_one]
    · simp [hj, Value.cells]
  rw [e] at h2
  exact h2

/-- How often each number has come. -/
def timesL (zs : List Int) (n k : Nat) : List Int := (List.range n).map fun j : Nat => if (j : Int) + 1 ∈ zs.take k then 1 else 0

theorem timesL_zero (zs : List Int) (n : Nat) : (timesL zs n 0).map vI = List.replicate n (vI 0) := by
  apply List.ext_getElem?
  intro j
  unfold timesL
  by_cases hj : j < n
  · simp [hj]
  · simp [hj]
theorem timesL_len (zs : List Int) (n k : Nat) : (timesL zs n k).length = n := by simp [timesL]
theorem timesL_get (zs : List Int) (n k i : Nat) (hi : i < n) : (timesL zs n k)[i]? = some (if (i : Int) + 1 ∈ zs.take k then 1 else 0) := by simp [timesL, hi]
theorem timesL_step (zs : List Int) (n k i : Nat) (hk : k < zs.length) (hz : zs[k] = (i : Int) + 1) : ((timesL zs n k).map vI).set i (vI 1) = (timesL zs n (k + 1)).map vI := by
  apply List.ext_getElem?
  intro j
  have htk : zs.take (k + 1) = zs.take k ++ [(i : Int) + 1] := by rw [List.take_add_one, List.getElem?_eq_getElem hk, hz]; rfl
  by_cases hj : j < n
  · rw [List.getElem?_map, timesL_get zs n (k + 1) j hj, htk]
    by_cases hji : j = i
    · subst hji
      rw [List.getElem?_set_self (by simp [timesL, hj])]
      simp
    · rw [List.getElem?_set_ne (Ne.symm hji), List.getElem?_map, timesL_get zs n k j hj]
      have : ¬ ((j : Int) + 1 = (i : Int) + 1) := by omega
      simp [this]
  · rw [List.getElem?_eq_none (by simp [timesL]; omega), List.getElem?_eq_none (by simp [timesL]; omega)]

theorem dropAll_snoc (zs : List Int) (cs : List CellR) (k : Nat) (h : k < zs.length) : dropAll (zs.take (k + 1)) cs = dropStep (dropAll (zs.take k) cs) zs[k] := by
  unfold dropAll
  rw [List.take_add_one, List.getElem?_eq_getElem h, List.foldl_append]
  rfl

end Go.Proofs.Ytmdlebolmhnhaab
