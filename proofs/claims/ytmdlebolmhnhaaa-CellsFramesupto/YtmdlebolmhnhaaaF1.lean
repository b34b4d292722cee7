import Derived.Test.YtmdlebolmhnhaaaS3
import Derived.Test.YtmdlebolmhnhaaaD1
namespace Go.Proofs.Ytmdlebolmhnhaaa
open Go.RowKit (wrap32 wrap64)
open Go.Maps (Keyed)
set_option linter.unusedVariables false
set_option linter.unusedSimpArgs false

/-! ### frames one above the other: how many cells each makes, on the heap and not -/
section
variable (hp fr : Nat → Nat)

/-- How many cells the first frames made. -/
def S : Nat → Nat
  | 0 => 0
  | i + 1 => S i + (hp i + fr i)

/-- Of a frame's first cells those that are not on the heap. -/
def grp (i k : Nat) : List Nat := ((List.range k).filter fun t => decide (hp i ≤ t)).map fun t => S hp fr i + t + 1

/-- The cells of the first frames that are not on the heap. -/
def P : Nat → List Nat
  | 0 => []
  | i + 1 => P i ++ grp hp fr i (hp i + fr i)

theorem grp_zero (i : Nat) : grp hp fr i 0 = [] := rfl
theorem grp_succ (i k : Nat) : grp hp fr i (k + 1) = grp hp fr i k ++ (if hp i ≤ k then [S hp fr i + k + 1] else []) := by
  unfold grp
  rw [List.range_succ, List.filter_append, List.map_append]
  congr 1
  by_cases h : hp i ≤ k
  · simp [h]
  · simp [h]
theorem grp_length (i : Nat) : ∀ k, (grp hp fr i k).length = k - hp i
  | 0 => by simp [grp]
  | k + 1 => by
    rw [grp_succ, List.length_append, grp_length i k]
    split
    · simp; omega
    · simp; omega
theorem grp_mem {i k p : Nat} (h : p ∈ grp hp fr i k) : S hp fr i < p ∧ p ≤ S hp fr i + k := by
  unfold grp at h
  simp only [List.mem_map, List.mem_filter, List.mem_range] at h
  obtain ⟨t, ⟨h1, -⟩, rfl⟩ := h
  omega
theorem grp_sorted (i k : Nat) : (grp hp fr i k).Pairwise (· < ·) := by
  unfold grp
  refine List.pairwise_map.2 ((List.pairwise_lt_range.filter _).imp ?_)
  intro x y h
  omega
theorem P_mem : ∀ {i p : Nat}, p ∈ P hp fr i → 1 ≤ p ∧ p ≤ S hp fr i
  | i + 1, p, h => by
    unfold P at h
    rcases List.mem_append.1 h with h | h
    · have := P_mem h
      simp only [S]
      omega
    · have := grp_mem hp fr h
      simp only [S]
      omega
theorem P_sorted : ∀ i, (P hp fr i).Pairwise (· < ·)
  | 0 => List.Pairwise.nil
  | i + 1 => by
    unfold P
    refine List.pairwise_append.2 ⟨P_sorted i, grp_sorted hp fr i _, fun x hx y hy => ?_⟩
    have h1 := P_mem hp fr hx
    have h2 := grp_mem hp fr hy
    omega
theorem P_prefix (n : Nat) : ∀ i, i ≤ n → ∃ l, P hp fr n = P hp fr i ++ l := by
  induction n with
  | zero => intro i hi; exact ⟨[], by rw [show i = 0 by omega]; rfl⟩
  | succ n ih =>
    intro i hi
    by_cases h : i = n + 1
    · exact ⟨[], by rw [h]; simp⟩
    · obtain ⟨l, hl⟩ := ih i (by omega)
      exact ⟨l ++ grp hp fr n (hp n + fr n), by rw [P, hl, List.append_assoc]⟩
theorem S_mono {i j : Nat} (h : i ≤ j) : S hp fr i ≤ S hp fr j := by
  induction j with
  | zero => rw [show i = 0 by omega]; exact Nat.le_refl _
  | succ j ih =>
    by_cases e : i = j + 1
    · rw [e]; exact Nat.le_refl _
    · have := ih (by omega)
      simp only [S]
      omega
/-- How many cells the first frames made on the heap. -/
def Hs : Nat → Nat
  | 0 => 0
  | i + 1 => Hs i + hp i
theorem P_length : ∀ i, (P hp fr i).length + Hs hp i = S hp fr i
  | 0 => rfl
  | i + 1 => by
    have := P_length i
    rw [P, List.length_append, grp_length]
    simp only [Hs, S]
    omega

/-- What goes when a frame goes. -/
theorem P_cut (i : Nat) : IsCut (S hp fr i) (P hp fr (i + 1)) (P hp fr i).length := by
  have hP : P hp fr (i + 1) = P hp fr i ++ grp hp fr i (hp i + fr i) := rfl
  refine ⟨by rw [hP]; simp, fun j p hj hjp => ?_, fun p h0 hjp => ?_⟩
  · rw [hP, List.getElem?_append_right hj] at hjp
    exact (grp_mem hp fr (List.mem_of_getElem? hjp)).1
  · rw [hP, List.getElem?_append_left (by omega)] at hjp
    exact (P_mem hp fr (List.mem_of_getElem? hjp)).2
end

theorem filter_parts {α : Type} (p : α → Bool) : ∀ l : List α, l.length = (l.filter p).length + (l.filter fun x => !p x).length
  | [] => rfl
  | x :: r => by
    have := filter_parts p r
    cases h : p x
    · simp [h]; omega
    · simp [h]; omega

/-- How many are there: all but those that are gone. -/
theorem count_out (m : Nat) (Q : List Nat) (hnd : Q.Nodup) (hQ : ∀ q ∈ Q, 1 ≤ q ∧ q ≤ m) : ((List.range (m + 1)).filter fun i => decide (1 ≤ i ∧ i ∉ Q)).length + Q.length = m := by
  have h1 : ((List.range (m + 1)).filter fun i => decide (i ∈ 0 :: Q)).Perm (0 :: Q) := by
    refine (List.perm_ext_iff_of_nodup (List.nodup_range.filter _) ?_).2 fun x => ?_
    · refine List.nodup_cons.2 ⟨fun h => ?_, hnd⟩
      have := hQ 0 h
      omega
    · simp only [List.mem_filter, List.mem_range, decide_eq_true_eq]
      constructor
      · exact fun h => h.2
      · intro h
        refine ⟨?_, h⟩
        rcases List.mem_cons.1 h with rfl | h
        · omega
        · have := hQ x h
          omega
  have h2 := h1.length_eq
  have h3 : ((List.range (m + 1)).filter fun i => decide (1 ≤ i ∧ i ∉ Q)) = (List.range (m + 1)).filter fun i => !decide (i ∈ 0 :: Q) := by
    refine List.filter_congr fun x _ => ?_
    by_cases hx : x = 0
    · simp [hx]
    · by_cases hq : x ∈ Q
      · simp [hx, hq]
      · simp [hx, hq]; omega
  have h4 := filter_parts (fun i => decide (i ∈ 0 :: Q)) (List.range (m + 1))
  rw [h3]
  simp only [List.length_range, List.length_cons] at h2 h4
  omega

/-! ### the memory as the frames begin and go -/
section
variable (hp fr : Nat → Nat)

/-- So many frames have begun, the last one has made so many cells. -/
structure Up (i k : Nat) (a : Abs) : Prop where
  made : a.made = S hp fr i + k
  frs : a.frs = (List.range (i + 1)).map (S hp fr)
  pss : a.pss = P hp fr i ++ grp hp fr i k
  cells : ∀ c, (a.cells c).isSome = decide (1 ≤ c ∧ c ≤ a.made)
/-- So many frames have begun, and made all their cells. -/
structure Up0 (i : Nat) (a : Abs) : Prop where
  made : a.made = S hp fr i
  frs : a.frs = (List.range i).map (S hp fr)
  pss : a.pss = P hp fr i
  cells : ∀ c, (a.cells c).isSome = decide (1 ≤ c ∧ c ≤ a.made)
/-- Of n frames so many are left. -/
structure Dn (n i : Nat) (a : Abs) : Prop where
  made : a.made = S hp fr n
  frs : a.frs = (List.range i).map (S hp fr)
  pss : a.pss = P hp fr i
  cells : ∀ c, (a.cells c).isSome = decide ((1 ≤ c ∧ c ≤ S hp fr n) ∧ c ∉ (P hp fr n).drop (P hp fr i).length)

variable {hp fr}
theorem Up0.start (n : Nat) : Up0 hp fr 0 (newX n) := ⟨rfl, rfl, rfl, fun c => by simp [newX]; omega⟩
theorem Up0.push {i : Nat} {a : Abs} (h : Up0 hp fr i a) : Up hp fr i 0 (pushX a) :=
  ⟨h.made, by simp [pushX, h.frs, h.made, List.range_succ], by simp [pushX, h.pss, grp_zero], h.cells⟩
theorem Up.make {i k : Nat} {a : Abs} (h : Up hp fr i k a) (n : Nat) : Up hp fr i (k + 1) (if decide (k < hp i) then mkA a n else { mkA a n with pss := a.pss ++ [a.made + 1] }) := by
  have hc : ∀ c, ((mkA a n).cells c).isSome = decide (1 ≤ c ∧ c ≤ a.made + 1) := by
    intro c
    show (if c = a.made + 1 then some (List.replicate n ((0, 0) : Val)) else a.cells c).isSome = _
    by_cases e : c = a.made + 1
    · rw [if_pos e]
      exact (decide_eq_true (by omega)).symm
    · rw [if_neg e, h.cells c]
      exact Bool.eq_iff_iff.2 (by simp only [decide_eq_true_eq]; omega)
  have hm : (mkA a n).made = S hp fr i + (k + 1) := by simp [mkA, h.made]; omega
  by_cases hk : k < hp i
  · simp only [hk, decide_true, if_true]
    exact ⟨hm, h.frs, by rw [grp_succ, if_neg (by omega), List.append_nil]; exact h.pss, hc⟩
  · simp only [hk, decide_false, Bool.false_eq_true, if_false]
    refine ⟨hm, h.frs, ?_, hc⟩
    rw [grp_succ, if_pos (by omega), ← List.append_assoc, h.pss, h.made]
theorem Up.done {i : Nat} {a : Abs} (h : Up hp fr i (hp i + fr i) a) : Up0 hp fr (i + 1) a := ⟨h.made, h.frs, h.pss, h.cells⟩
theorem Up0.turn {n : Nat} {a : Abs} (h : Up0 hp fr n a) : Dn hp fr n n a := ⟨h.made, h.frs, h.pss, fun c => by rw [h.cells c, h.made]; simp⟩
theorem Dn.pop {n i : Nat} {a : Abs} (h : Dn hp fr n (i + 1) a) (hi : i + 1 ≤ n) : (popX a).2 = 0 ∧ Dn hp fr n i (popX a).1 := by
  have hl : a.frs.getLast? = some (S hp fr i) := by rw [h.frs, List.range_succ]; simp
  have hk : cutLen (S hp fr i) a.pss = (P hp fr i).length := IsCut.unique (cutLen_is _ _) (by rw [h.pss]; exact P_cut hp fr i)
  have hP : P hp fr (i + 1) = P hp fr i ++ grp hp fr i (hp i + fr i) := rfl
  obtain ⟨l, hpre⟩ := P_prefix hp fr n (i + 1) hi
  unfold popX
  rw [hl]
  simp only [hk]
  refine ⟨trivial, ⟨h.made, by simp [h.frs, List.range_succ], by rw [h.pss, hP]; simp, fun c => ?_⟩⟩
  simp only [gone, h.pss]
  have hd : (P hp fr n).drop (P hp fr i).length = (P hp fr (i + 1)).drop (P hp fr i).length ++ (P hp fr n).drop (P hp fr (i + 1)).length := by
    rw [hpre, hP]
    simp
  rw [hd]
  split
  · rename_i hm
    simp [hm]
  · rename_i hm
    rw [h.cells c]
    simp [hm]
theorem Dn.count {n i : Nat} {a : Abs} (h : Dn hp fr n i a) (hi : i ≤ n) : (liveX a).length + Hs hp i = S hp fr i + Hs hp n := by
  obtain ⟨l, hpre⟩ := P_prefix hp fr n i hi
  have hd : (P hp fr n).drop (P hp fr i).length = l := by rw [hpre]; simp
  have hnd : l.Nodup := by
    have := P_sorted hp fr n
    rw [hpre] at this
    exact ((List.pairwise_append.1 this).2.1).imp (fun h => by omega)
  have hm : ∀ q ∈ l, 1 ≤ q ∧ q ≤ S hp fr n := fun q hq => P_mem hp fr (by rw [hpre]; exact List.mem_append_right _ hq)
  have hc := count_out (S hp fr n) l hnd hm
  have he : liveN a = (List.range (S hp fr n + 1)).filter fun c => decide (1 ≤ c ∧ c ∉ l) := by
    unfold liveN
    rw [h.made]
    refine List.filter_congr fun c hcm => ?_
    rw [h.cells c, hd]
    have := List.mem_range.1 hcm
    simp only [decide_eq_decide]
    constructor
    · exact fun h => ⟨h.1.1, h.2⟩
    · exact fun h => ⟨⟨h.1, by omega⟩, h.2⟩
  have h1 := P_length hp fr n
  have h2 := P_length hp fr i
  have h3 : (P hp fr n).length = (P hp fr i).length + l.length := by rw [hpre, List.length_append]
  have h4 : (liveX a).length = (liveN a).length := by simp [liveX]
  rw [h4, he]
  omega
end

end Go.Proofs.Ytmdlebolmhnhaaa
