import Derived.Test.YtgcekpmkniipfaaQD3
namespace Go.Proofs.Ytgcekpmkniipfaa
open Go.RowKit (wrap32 wrap64)
set_option linter.unusedVariables false
set_option linter.unusedSimpArgs false

set_option maxRecDepth 100000 in
/-- More than 64 clients: nothing happens. -/
theorem play_many (w : World) (v sv : Value) (cl : List (List OpT)) (h : ClsAt w w.heap.size v cl) (hn : 64 < cl.length) :
    Calls Try.prog 13 #[v, sv] w fun e w' => e = .returned (.slice none 0 0) ∧ w' = w := by
  obtain ⟨ad, cap, rfl, -⟩ := h
  obtain ⟨n, en⟩ : ∃ n, n = cl.length := ⟨_, rfl⟩
  rw [← en] at hn ⊢
  clear en
  have h1 : (64 : Int) < n := by omega
  have h2 : decide ((n : Int) > 64) = true := by simp; omega
  go_enter Try.func13, Try.ntmps13
  go_wp2_with fail
  go_ret
  exact ⟨rfl, rfl⟩

theorem fromK_len (l : List OpT) : (fromK l).length ≤ l.length := (List.dropWhile_sublist _).length_le
theorem costs_le (l : List OpT) : costs l ≤ 11 * l.length := by
  induction l with
  | nil => simp [costs]
  | cons a r ih =>
    have : cost a ≤ 11 := by unfold cost; split <;> omega
    unfold costs at *
    rw [List.map_cons, List.sum_cons, List.length_cons]
    omega
theorem mu_le (cl : List (List OpT)) : mu (begin0 cl) ≤ 11 * total cl := by
  have : ∀ cl : List (List OpT), (((cl.map (fun l => (⟨fromK l, 0, 0, rep0⟩ : Cl))).map mu1).sum) ≤ 11 * (cl.map List.length).sum := fun cl => by
    induction cl with
    | nil => simp
    | cons a r ih =>
      rw [List.map_cons, List.map_cons, List.sum_cons, List.map_cons, List.sum_cons]
      have h1 : mu1 (⟨fromK a, 0, 0, rep0⟩ : Cl) ≤ 11 * a.length := by
        have := costs_le (fromK a)
        have := fromK_len a
        simp [mu1]
        omega
      omega
  have h := this cl
  unfold mu total
  show (((cl.map (fun l => (⟨fromK l, 0, 0, rep0⟩ : Cl))).map mu1).sum) ≤ _
  omega

/-! ### the order of each client -/
def opOf (ms : List MomT) (c i : Nat) : Option OpT := match ms[i]? with | some m => if m.c = c then some m.op else none | none => none
def remOps (ms : List MomT) (L : List Nat) (c : Nat) : List OpT := L.filterMap (opOf ms c)
theorem rem_begs (ms : List MomT) (c : Nat) : ∀ i, i ≤ ms.length → remOps ms (begsTo ms i) c = begOps (ms.take i) c
  | 0, _ => by simp [begsTo, remOps, begOps]
  | i + 1, h => by
    have ih := rem_begs ms c i (by omega)
    have hm : ms[i]? = some ms[i] := List.getElem?_eq_getElem (by omega)
    have e : begOps (ms.take (i + 1)) c = begOps (ms.take i) c ++ if ms[i].beg && ms[i].c == c then [ms[i].op] else [] := by
      rw [List.take_add_one, hm]; exact begOps_app _ _ _
    have hb : isBeg ms i = ms[i].beg := by unfold isBeg; rw [hm]
    rw [e, begsTo_succ, hb, ← ih]
    unfold remOps
    cases hbg : ms[i].beg
    · simp
    · simp only [if_true, List.filterMap_append, Bool.true_and]
      congr 1
      simp only [List.filterMap_cons, List.filterMap_nil, opOf, hm]
      by_cases hc : ms[i].c = c <;> simp [hc]
/-- How far the clients have come, before the calls L. -/
def Far (cl : List (List OpT)) (ms : List MomT) (L : List Nat) (A : List Nat) : Prop :=
  A.length = cl.length ∧ ∀ c l a, cl[c]? = some l → A[c]? = some a → a ≤ l.length ∧ (l.drop a).filter knw = remOps ms L c
theorem Far.start {cl : List (List OpT)} {ms : List MomT} (h : Hist cl ms) : Far cl ms (begsTo ms ms.length) (List.replicate cl.length 0) := by
  refine ⟨by simp, fun c l a hl ha => ?_⟩
  have e : a = 0 := by
    have := (List.getElem?_eq_some_iff.1 ha).2
    simp at this; exact this.symm
  subst e
  refine ⟨Nat.zero_le _, ?_⟩
  rw [List.drop_zero, h.all c l hl, rem_begs ms c _ (Nat.le_refl _), List.take_length]
/-- One operation of c more. -/
theorem Far.next {cl : List (List OpT)} {ms : List MomT} {L A : List Nat} {i a : Nat} {m : MomT} {l : List OpT} (h : Far cl ms (i :: L) A) (hm : ms[i]? = some m) (hl : cl[m.c]? = some l) (ha : A[m.c]? = some a) :
    ∃ o r, l.drop a = o :: r ∧ (knw o = false → Far cl ms (i :: L) (A.set m.c (a + 1))) ∧ (knw o = true → o = m.op ∧ Far cl ms L (A.set m.c (a + 1))) := by
  obtain ⟨h1, h2⟩ := h.2 m.c l a hl ha
  have hr : remOps ms (i :: L) m.c = m.op :: remOps ms L m.c := by
    unfold remOps
    rw [List.filterMap_cons]
    simp [opOf, hm]
  have hr' : ∀ c, c ≠ m.c → remOps ms (i :: L) c = remOps ms L c := fun c hc => by
    unfold remOps
    rw [List.filterMap_cons]
    simp [opOf, hm, Ne.symm hc]
  have hcA : m.c < A.length := (List.getElem?_eq_some_iff.1 ha).1
  rw [hr] at h2
  cases hd : l.drop a with
  | nil => rw [hd] at h2; cases h2
  | cons o r =>
    have hlt : a < l.length := by
      rcases Nat.lt_or_ge a l.length with h | h
      · exact h
      · rw [List.drop_eq_nil_of_le h] at hd; cases hd
    have hd1 : l.drop (a + 1) = r := by
      rw [← List.drop_drop, hd]; rfl
    have key : ∀ L', (∀ c, c ≠ m.c → remOps ms L' c = remOps ms (i :: L) c) → r.filter knw = remOps ms L' m.c → Far cl ms L' (A.set m.c (a + 1)) := fun L' hc hf => by
      refine ⟨by rw [List.length_set]; exact h.1, fun c l' a' hl' ha' => ?_⟩
      by_cases e : c = m.c
      · subst e
        rw [List.getElem?_set_self hcA] at ha'
        rw [hl] at hl'
        obtain rfl := Option.some.inj ha'
        obtain rfl := Option.some.inj hl'
        exact ⟨hlt, by rw [hd1]; exact hf⟩
      · rw [List.getElem?_set_ne (Ne.symm e)] at ha'
        rw [hc c e]
        exact h.2 c l' a' hl' ha'
    refine ⟨o, r, rfl, fun hk => key _ (fun _ _ => rfl) ?_, fun hk => ?_⟩
    · rw [hd, List.filter_cons, hk] at h2
      simp only [Bool.false_eq_true, if_false] at h2
      rw [hr]; exact h2
    · rw [hd, List.filter_cons, hk, if_pos rfl] at h2
      injection h2 with e1 e2
      exact ⟨e1, key _ (fun c hc => (hr' c hc).symm) e2⟩
/-- At the end: no known operation is left. -/
theorem Far.over {cl : List (List OpT)} {ms : List MomT} {A : List Nat} {c a : Nat} {l : List OpT} (h : Far cl ms [] A) (hl : cl[c]? = some l) (ha : A[c]? = some a) : ∀ o ∈ l.drop a, knw o = false := by
  have h2 := (h.2 c l a hl ha).2
  have : (l.drop a).filter knw = [] := h2
  intro o ho
  have := List.filter_eq_nil_iff.1 this o ho
  simpa using this
theorem knw_false {o : OpT} : knw o = false ↔ o.1 < 1 ∨ 3 < o.1 := by
  unfold knw known
  simp
  omega
theorem knw_true {o : OpT} : knw o = true ↔ 1 ≤ o.1 ∧ o.1 ≤ 3 := by
  unfold knw known
  simp
  omega
/-- The counters in memory. -/
def AtW (w : World) (ab : Nat) (A : List Nat) : Prop := w.heap[ab]? = some (.cells (A.map (fun (a : Nat) => vI a)).toArray 3)
theorem AtW.cell {w : World} {ab : Nat} {A : List Nat} (h : AtW w ab A) {c a : Nat} (ha : A[c]? = some a) : w.cell? ⟨ab, c, none⟩ = some (vI a) := by
  rw [cell_of h]; simp [ha]
theorem AtW.set {w : World} {ab : Nat} {A : List Nat} (h : AtW w ab A) (c a : Nat) : AtW (w.setCell ⟨ab, c, none⟩ (vI a)) ab (A.set c a) := by
  have := set_of h c (vI a)
  unfold AtW
  rw [this, List.map_set]
  simp
end Go.Proofs.Ytgcekpmkniipfaa
