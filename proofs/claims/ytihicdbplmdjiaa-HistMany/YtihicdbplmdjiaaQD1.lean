import Derived.Test.YtihicdbplmdjiaaQC5
namespace Go.Proofs.Ytihicdbplmdjiaa
open Go.RowKit (wrap32 wrap64)
set_option linter.unusedVariables false
set_option linter.unusedSimpArgs false

/-! ### n Lookups at one time -/
abbrev noB : ByteArray := ⟨#[]⟩
theorem em0 : emB noB = true := by
  unfold emB ByteArray.toList
  rw [ByteArray.toList.loop]
  have : noB.size = 0 := rfl
  simp [this]
def mo (i : Nat) (b : Bool) : Mo := ⟨i, b, 2, 3, noB, rv0⟩
def manyH (n : Nat) : List Mo := (List.range n).map (fun i => mo i true) ++ (List.range n).map (fun i => mo i false)
def fin (n i : Nat) : Cl := ⟨i, n + i, 2, 3, noB, rv0⟩
def bgn (i : Nat) : Cl := ⟨i, 0, 2, 3, noB, rv0⟩
theorem zero0 : isZeroB rv0.r = true := by unfold isZeroB rv0 noKeysB; simp [em0]
theorem right0 : rightOpB 2 3 noB = true := by unfold rightOpB; simp [em0]
theorem reply0 : rightReplyB 2 rv0.r = true := by unfold rightReplyB noKeysB rv0; simp [em0]
theorem step_b (at_ i : Nat) (s : St) (h : s.op.lookup (i : Int) = none) : stepO at_ (mo i true) s = some ⟨s.cs ++ [bgn at_], ((i : Int), s.cs.length) :: s.op⟩ := by
  unfold stepO
  have : (mo i true).c = (i : Int) := rfl
  rw [this, h]
  have : ((mo i true).beg && rightOpB (mo i true).kd (mo i true).ky (mo i true).v && isZeroB (mo i true).R.r) = true := by
    show (true && rightOpB 2 3 noB && isZeroB rv0.r) = true
    rw [right0, zero0]; rfl
  simp only [this, if_true]
  rfl
theorem step_e (at_ i q b : Nat) (s : St) (h : s.op.lookup (i : Int) = some q) (hc : s.cs[q]? = some (bgn b)) : stepO at_ (mo i false) s = some ⟨s.cs.set q ⟨b, at_, 2, 3, noB, rv0⟩, s.op.filter (fun p => p.1 != (i : Int))⟩ := by
  unfold stepO
  have : (mo i false).c = (i : Int) := rfl
  rw [this, h]
  simp only [hc]
  have : (!(mo i false).beg && sameOp (mo i false) (bgn b) && rightReplyB (mo i false).kd (mo i false).R.r) = true := by
    show (!false && sameOp (mo i false) (bgn b) && rightReplyB 2 rv0.r) = true
    rw [reply0]
    simp [sameOp, mo, bgn]
  rw [if_pos this]
  rfl
theorem many_len (n : Nat) : (manyH n).length = n + n := by simp [manyH]
theorem many_b (n k : Nat) (h : k < n) : (manyH n)[k]? = some (mo k true) := by
  unfold manyH
  rw [List.getElem?_append_left (by simpa using h), List.getElem?_map, List.getElem?_range h]; rfl
theorem many_e (n j : Nat) (h : j < n) : (manyH n)[n + j]? = some (mo j false) := by
  unfold manyH
  rw [List.getElem?_append_right (by simp), List.length_map, List.length_range, show n + j - n = j by omega, List.getElem?_map, List.getElem?_range h]; rfl
theorem phase1 (n : Nat) : ∀ k, k ≤ n → ∃ s, runO (manyH n) k = some s ∧ s.cs = (List.range k).map bgn ∧ ∀ q : Int, s.op.lookup q = if 0 ≤ q ∧ q < k then some q.toNat else none
  | 0, _ => ⟨⟨[], []⟩, rfl, rfl, fun q => by rw [if_neg (by omega)]; rfl⟩
  | k + 1, h => by
    obtain ⟨s, h1, h2, h3⟩ := phase1 n k (by omega)
    have hst := runO_step h1 (many_b n k (by omega))
    rw [step_b k k s (by rw [h3, if_neg (by omega)])] at hst
    refine ⟨_, hst, by rw [h2, List.range_succ, List.map_append]; rfl, fun q => ?_⟩
    show (((k : Int), s.cs.length) :: s.op).lookup q = _
    rw [List.lookup_cons]
    by_cases e : q = (k : Int)
    · subst e
      rw [if_pos (by omega), h2]
      simp
    · rw [show (q == (k : Int)) = false by simpa using e, h3]
      by_cases h4 : 0 ≤ q ∧ q < k
      · rw [if_pos h4, if_pos (by omega)]
      · rw [if_neg h4, if_neg (by omega)]
theorem phase2 (n : Nat) : ∀ j, j ≤ n → ∃ s, runO (manyH n) (n + j) = some s ∧ s.cs = (List.range n).map (fun i => if i < j then fin n i else bgn i) ∧ ∀ q : Int, s.op.lookup q = if (j : Int) ≤ q ∧ q < n then some q.toNat else none
  | 0, _ => by
    obtain ⟨s, h1, h2, h3⟩ := phase1 n n (Nat.le_refl _)
    exact ⟨s, h1, by rw [h2]; congr 1, fun q => by rw [h3]; rfl⟩
  | j + 1, h => by
    obtain ⟨s, h1, h2, h3⟩ := phase2 n j (by omega)
    have hst := runO_step h1 (many_e n j (by omega))
    have hq : s.op.lookup (j : Int) = some j := by rw [h3, if_pos (by omega)]; rfl
    have hcj : s.cs[j]? = some (bgn j) := by
      rw [h2, List.getElem?_map, List.getElem?_range (by omega)]
      simp
    rw [step_e (n + j) j j j s hq hcj] at hst
    refine ⟨_, hst, ?_, fun q => ?_⟩
    · show s.cs.set j _ = _
      apply List.ext_getElem?
      intro x
      rw [List.getElem?_set, h2]
      by_cases e : j = x
      · subst e
        rw [if_pos rfl, if_pos (by simp; omega), List.getElem?_map, List.getElem?_range (by omega)]
        simp [fin]
      · rw [if_neg e, List.getElem?_map, List.getElem?_map]
        by_cases hx : x < n
        · rw [List.getElem?_range hx]
          show some _ = some _
          congr 1
          show (if x < j then fin n x else bgn x) = (if x < j + 1 then fin n x else bgn x)
          by_cases hxj : x < j
          · rw [if_pos hxj, if_pos (by omega)]
          · rw [if_neg hxj, if_neg (by omega)]
        · rw [List.getElem?_eq_none (by simpa using hx)]; rfl
    · show (s.op.filter (fun p => p.1 != (j : Int))).lookup q = _
      rw [lookup_filter, h3]
      by_cases e : q = (j : Int)
      · rw [if_pos e, if_neg (by omega)]
      · rw [if_neg e]
        by_cases h4 : (j : Int) ≤ q ∧ q < n
        · rw [if_pos h4, if_pos (by omega)]
        · rw [if_neg h4, if_neg (by omega)]
theorem many_calls (n : Nat) : callsX (manyH n) = if n ≤ 64 then some ((List.range n).map (fin n)) else none := by
  unfold callsX
  rw [many_len]
  by_cases h : n ≤ 64
  · rw [if_pos h, if_neg (by omega)]
    obtain ⟨s, h1, h2, h3⟩ := phase2 n n (Nat.le_refl _)
    rw [h1]
    have hop : s.op = [] := by
      cases hs : s.op with
      | nil => rfl
      | cons a l =>
        have := h3 a.1
        rw [hs, if_neg (by omega), List.lookup_cons] at this
        simp at this
    simp only [Option.bind_some]
    rw [if_pos hop, h2]
    congr 1
    apply List.map_congr_left
    intro i hi
    rw [if_pos (List.mem_range.1 hi)]
  · rw [if_neg h, if_pos (by omega)]
/-- Nothing must stand ahead of anything. -/
theorem many_ahead (n i k : Nat) (hk : k ≤ n) (hi : i < n) : aheadTo ((List.range n).map (fin n)) i k = [] := by
  unfold aheadTo
  rw [List.filter_eq_nil_iff]
  intro j hj
  have hj := List.mem_range.1 hj
  rw [List.getElem?_map, List.getElem?_map, List.getElem?_range (by omega), List.getElem?_range hi]
  simp [precB, makesB, fin]
  omega
theorem many_waits (n : Nat) : waitsX ((List.range n).map (fin n)) = List.replicate n 0 := by
  unfold waitsX
  apply List.ext_getElem
  · simp
  · intro i h1 h2
    simp only [List.getElem_map, List.getElem_range, List.getElem_replicate, List.length_map, List.length_range]
    rw [many_ahead n i n (Nat.le_refl _) (by simpa using h1)]
    rfl
theorem many_made (n : Nat) : madeX ((List.range n).map (fin n)) = fun _ => none := by
  have : ∀ (cs : List Cl) (f : Mk), (∀ c ∈ cs, makesB c = false) → cs.foldl (fun f c => if makesB c then (fun q => if q = c.ky then some c else f q) else f) f = f := by
    intro cs
    induction cs with
    | nil => intro f _; rfl
    | cons a cs ih =>
      intro f h
      rw [List.foldl_cons, h a (by simp)]
      exact ih f (fun c hc => h c (by simp [hc]))
  unfold madeX
  exact this _ _ (fun c hc => by obtain ⟨i, -, rfl⟩ := List.mem_map.1 hc; rfl)
theorem many_possible (n : Nat) (f : Mk) : possibleB f ((List.range n).map (fin n)) = true := by
  unfold possibleB
  rw [List.all_eq_true]
  intro c hc
  obtain ⟨i, -, rfl⟩ := List.mem_map.1 hc
  simp [canTellB, fin, rv0]
theorem many_ord (n : Nat) (hn : n ≤ 64) : ∀ (m left k : Nat) (acc : List Nat) (r : Option (List Nat)), m + k = n → left < 18446744073709551616 → (∀ j, left.testBit j = (decide (k ≤ j) && decide (j < n))) → Ord (List.replicate n 0) left acc r → r = some (acc ++ List.range' k m)
  | 0, left, k, acc, r, hk, hl, hb, h => by
    have h0 : left = 0 := by
      apply Nat.eq_of_testBit_eq
      intro j
      rw [hb, Nat.zero_testBit]
      by_cases e : k ≤ j
      · have : ¬ j < n := by omega
        simp [this]
      · simp [e]
    subst h0
    cases h with
    | done => simp
    | stuck _ _ h0 _ => exact absurd rfl h0
    | step _ _ _ _ h0 _ _ => exact absurd rfl h0
  | m + 1, left, k, acc, r, hk, hl, hb, h => by
    have hbk : left.testBit k = true := by rw [hb]; simp; omega
    have hx : leastX left (List.replicate n 0) = some k := by
      refine leastX_some (by simp; omega) ?_ (fun i hi => ?_)
      · unfold freeB
        rw [hbk, List.getD_eq_getElem?_getD, List.getElem?_replicate, if_pos (by omega)]
        simp
      · unfold freeB
        rw [hb]
        have : ¬ k ≤ i := by omega
        simp [this]
    cases h with
    | done => rw [Nat.zero_testBit] at hbk; cases hbk
    | stuck _ _ _ h2 => rw [hx] at h2; cases h2
    | step _ i _ _ _ h2 h3 =>
      rw [hx] at h2
      cases h2
      have := many_ord n hn m (dropS left k) (k + 1) (acc ++ [k]) r (by omega) (dropS_lt k hl) (fun j => by
        rw [dropS_bit j hl (by omega), hb]
        by_cases e : j = k
        · subst e
          simp
          omega
        · by_cases h4 : k ≤ j
          · have : k + 1 ≤ j := by omega
            simp [e, h4, this]
          · have : ¬ k + 1 ≤ j := by omega
            simp [h4, this]) h3
      rw [this, List.append_assoc]
      rfl
theorem many_all (n : Nat) (hn : n ≤ 64) (r : Option (List Nat)) (h : Ord (List.replicate n 0) (2 ^ n - 1) [] r) : r = some (List.range' 0 n) := by
  have := many_ord n hn n (2 ^ n - 1) 0 [] r (by omega) (firsts_lt hn) (fun j => by rw [firsts_bit]; simp) h
  simpa using this
end Go.Proofs.Ytihicdbplmdjiaa
