import Derived.Test.YtgcekpmkniipfaaQD3
namespace Go.Proofs.Ytgcekpmkniipfaa
open Go.RowKit (wrap32 wrap64)
set_option linter.unusedVariables false
set_option linter.unusedSimpArgs false

set_option maxRecDepth 100000 in
/-- More than 64 clients: nothing happens. -/
theorem play_many (w : World) (v sv : Value) (cl : List (List OpT)) (h : ClsAt w w.heap.size v cl) (hn : 64 < cl.length) :
    Calls Try.prog 13 #[v, sv] w fun e w' => e = .returned (.slice none 0 0) ∧ w' = w := by
  obtain ⟨ad, cap, rfl, -⟩ := h
  obtain ⟨n, en⟩ : ∃ n, n = cl.length := ⟨_, rfl⟩
  rw [← en] at hn ⊢
  clear en
  have h1 : (64 : Int) < n := by omega
  have h2 : decide ((n : Int) > 64) = true := by simp; omega
  go_enter Try.func13, Try.ntmps13
  go_wp2_with fail
  go_ret
  exact ⟨rfl, rfl⟩

theorem fromK_len (l : List OpT) : (fromK l).length ≤ l.length := (List.dropWhile_sublist _).length_le
theorem costs_le (l : List OpT) : costs l ≤ 11 * l.length := by
  induction l with
  | nil => simp [costs]
  | cons a r ih =>
    have : cost a ≤ 11 := by unfold cost; split <;> omega
    unfold costs at *
    rw [List.map_cons, List.sum_cons, List.length_cons]
    omega
theorem mu_le (cl : List (List OpT)) : mu (begin0 cl) ≤ 11 * total cl := by
  have : ∀ cl : List (List OpT), (((cl.map (fun l => (⟨fromK l, 0, 0, rep0⟩ : Cl))).map mu1).sum) ≤ 11 * (cl.map List.length).sum := fun cl => by
    induction cl with
    | nil => simp
    | cons a r ih =>
      rw [List.map_cons, List.map_cons, List.sum_cons, List.map_cons, List.sum_cons]
      have h1 : mu1 (⟨fromK a, 0, 0, rep0⟩ : Cl) ≤ 11 * a.length := by
        have := costs_le (fromK a)
        have := fromK_len a
        simp [mu1]
        omega
      omega
  have h := this cl
  unfold mu total
  show (((cl.map (fun l => (⟨fromK l, 0, 0, rep0⟩ : Cl))).map mu1).sum) ≤ _
  omega

/-! ### the order of each client -/
def opOf (ms : List MomT) (c i : Nat) : Option OpT := match ms[i]? with | some m => if m.c = c then some m.op else none | none => none
def remOps (ms : List MomT) (L : List Nat) (c : Nat) : List OpT := L.filterMap (opOf ms c)
theorem rem_begs (ms : List MomT) (c : Nat) : ∀ i, i ≤ ms.length → remOps ms (begsTo ms i) c = begOps (ms.take i) c
  | 0, _ => by simp [begsTo, remOps, begOps]
  | i + 1, h => by
    have ih := rem_begs ms c i (by omega)
    have hm : ms[i]? = some ms[i] := List.getElem?_eq_getElem (by omega)
    have e : begOps (ms.take (i + 1)) c = begOps (ms.take i) c ++ if ms[i].beg && ms[i].c == c then [ms[i].op] else [] := by
      rw [List.take_add_one, hm]; exact begOps_app _ _ _
    have hb : isBeg ms i = ms[i].beg := by unfold isBeg; rw [hm]
    rw [e, begsTo_succ, hb, ← ih]
    unfold remOps
    cases hbg : ms[i].beg
    · simp
    · simp only [if_true, List.filterMap_append, Bool.true_and]
      congr 1
      simp only [List.filterMap_cons, List.filterMap_nil, opOf, hm]
      by_cases hc : ms[i].c = c <;> simp [hc]
/-- How far the clients have come, before the calls L. -/
def Far (cl : List (List OpT)) (ms : List MomT) (L : List Nat) (A : List Nat) : Prop :=
  A.length = cl.length ∧ ∀ c l a, cl[c]? = some l → A[c]? = some a → a ≤ l.length ∧ (l.drop a).filter knw = remOps ms L c
theorem Far.start {cl : List (List OpT)} {ms : List MomT} (h : Hist cl ms) : Far cl ms (begsTo ms ms.length) (List.replicate cl.length 0) := by
  refine ⟨by simp, fun c l a hl ha => ?_⟩
  have e : a = 0 := by
    have := (List.getElem?_eq_some_iff.1 ha).2
    simp at this; exact this.symm
  subst e
  refine ⟨Nat.zero_le _, ?_⟩
  rw [List.drop_zero, h.all c l hl, rem_begs ms c _ (Nat.le_refl _), List.take_length]
/-- One operation of c more. -/
theorem Far.next {cl : List (List OpT)} {ms : List MomT} {L A : List Nat} {i a : Nat} {m : MomT} {l : List OpT} (h : Far cl ms (i :: L) A) (hm : ms[i]? = some m) (hl : cl[m.c]? = some l) (ha : A[m.c]? = some a) :
    ∃ o r, l.drop a = o :: r ∧ (knw o = false → Far cl ms (i :: L) (A.set m.c (a + 1))) ∧ (knw o = true → o = m.op ∧ Far cl ms L (A.set m.c (a + 1))) := by
  obtain ⟨h1, h2⟩ := h.2 m.c l a hl ha
  have hr : remOps ms (i :: L) m.c = m.op :: remOps ms L m.c := by
    unfold remOps
    rw [List.filterMap_cons]
    simp [opOf, hm]
  have hr' : ∀ c, c ≠ m.c → remOps ms (i :: L) c = remOps ms L c := fun c hc => by
    unfold remOps
    rw [List.filterMap_cons]
    simp [opOf, hm, Ne.symm hc]
  have hcA : m.c < A.length := (List.getElem?_eq_some_iff.1 ha).1
  rw [hr] at h2
  cases hd : l.drop a with
  | nil => rw [hd] at h2; cases h2
  | cons o r =>
    have hlt : a < l.length := by
      rcases Nat.lt_or_ge a l.length with h | h
      · exact h
      · rw [List.drop_eq_nil_of_le h] at hd; cases hd
    have hd1 : l.drop (a + 1) = r := by
      rw [← List.drop_drop, hd]; rfl
    have key : ∀ L', (∀ c, c ≠ m.c → remOps ms L' c = remOps ms (i :: L) c) → r.filter knw = remOps ms L' m.c → Far cl ms L' (A.set m.c (a + 1)) := fun L' hc hf => by
      refine ⟨by rw [List.length_set]; exact h.1, fun c l' a' hl' ha' => ?_⟩
      by_cases e : c = m.c
      · subst e
        rw [List.getElem?_set_self hcA] at ha'
        rw [hl] at hl'
        obtain rfl := Option.some.inj ha'
        obtain rfl := Option.some.inj hl'
        exact ⟨hlt, by rw [hd1]; exact hf⟩
      · rw [List.getElem?_set_ne (Ne.symm e)] at ha'
        rw [hc c e]
        exact h.2 c l' a' hl' ha'
    refine ⟨o, r, rfl, fun hk => key _ (fun _ _ => rfl) ?_, fun hk => ?_⟩
    · rw [hd, List.filter_cons, hk] at h2
      simp only [Bool.false_eq_true, if_false] at h2
      rw [hr]; exact h2
    · rw [hd, List.filter_cons, hk, if_pos rfl] at h2
      injection h2 with e1 e2
      exact ⟨e1, key _ (fun c hc => (hr' c hc).symm) e2⟩
/-- At the end: no known operation is left. -/
theorem Far.over {cl : List (List OpT)} {ms : List MomT} {A : List Nat} {c a : Nat} {l : List OpT} (h : Far cl ms [] A) (hl : cl[c]? = some l) (ha : A[c]? = some a) : ∀ o ∈ l.drop a, knw o = false := by
  have h2 := (h.2 c l a hl ha).2
  have : (l.drop a).filter knw = [] := h2
  intro o ho
  have := List.filter_eq_nil_iff.1 this o ho
  simpa using this
theorem knw_false {o : OpT} : knw o = false ↔ o.1 < 1 ∨ 3 < o.1 := by
  unfold knw known
  simp
  omega
theorem knw_true {o : OpT} : knw o = true ↔ 1 ≤ o.1 ∧ o.1 ≤ 3 := by
  unfold knw known
  simp
  omega
/-- The counters in memory. -/
def AtW (w : World) (ab : Nat) (A : List Nat) : Prop := w.heap[ab]? = some (.cells (A.map (fun (a : Nat) => vI a)).toArray 3)
theorem AtW.cell {w : World} {ab : Nat} {A : List Nat} (h : AtW w ab A) {c a : Nat} (ha : A[c]? = some a) : w.cell? ⟨ab, c, none⟩ = some (vI a) := by
  rw [cell_of h]; simp [ha]
theorem AtW.set {w : World} {ab : Nat} {A : List Nat} (h : AtW w ab A) (c a : Nat) : AtW (w.setCell ⟨ab, c, none⟩ (vI a)) ab (A.set c a) := by
  have := set_of h c (vI a)
  unfold AtW
  rw [this, List.map_set]
  simp
end Go.Proofs.Ytgcekpmkniipfaa

namespace Go.Proofs.Ytgcekpmkniipfaa
open Go.RowKit (wrap32 wrap64)
set_option linter.unusedVariables false
set_option linter.unusedSimpArgs false

theorem iter_ms {zs : List Int} {s0 : St} (h : StOk s0) : ∀ k, StOk (iter zs s0 k) ∧ (iter zs s0 k).ms.length + mu (iter zs s0 k) ≤ s0.ms.length + mu s0
  | 0 => ⟨h, Nat.le_refl _⟩
  | k + 1 => by
    obtain ⟨h1, h2⟩ := iter_ms h k
    by_cases e : able (iter zs s0 k) = []
    · have : iter zs s0 (k + 1) = iter zs s0 k := by
        show (if able (iter zs s0 k) = [] then _ else _) = _
        rw [if_pos e]
      rw [this]; exact ⟨h1, h2⟩
    · rw [iter_step e]
      have hok := step_ok h1 (pick_mem (last := (iter zs s0 k).last) (zs := zs) (k := k) e) (pickX (iter zs s0 k).last (able (iter zs s0 k)) zs k : Nat)
      have hms := step_ms { iter zs s0 k with last := ((pickX (iter zs s0 k).last (able (iter zs s0 k)) zs k : Nat) : Int) } (pickX (iter zs s0 k).last (able (iter zs s0 k)) zs k)
      refine ⟨hok.1, ?_⟩
      have h5 := hok.2.1
      have h6 : (stepX { iter zs s0 k with last := ((pickX (iter zs s0 k).last (able (iter zs s0 k)) zs k : Nat) : Int) } (pickX (iter zs s0 k).last (able (iter zs s0 k)) zs k)).ms.length ≤ (iter zs s0 k).ms.length + 1 := hms
      clear hms hok
      generalize (stepX { iter zs s0 k with last := ((pickX (iter zs s0 k).last (able (iter zs s0 k)) zs k : Nat) : Int) } (pickX (iter zs s0 k).last (able (iter zs s0 k)) zs k)) = x at *
      omega
theorem ClsAt.mono {w : World} {B B' : Nat} {v : Value} {cl : List (List OpT)} (h : ClsAt w B v cl) (hB : B ≤ B') : ClsAt w B' v cl := by
  obtain ⟨ad, cap, e, hx⟩ := h
  refine ⟨ad, cap, e, fun hne => ?_⟩
  obtain ⟨g, o, ea, hg, hcs⟩ := hx hne
  refine ⟨g, o, ea, by omega, fun i hi => ?_⟩
  obtain ⟨u, hu, ho⟩ := hcs i hi
  exact ⟨u, hu, ho.mono hB⟩
theorem IntsAt.mono {w : World} {B B' : Nat} {v : Value} {zs : List Int} (h : IntsAt w B v zs) (hB : B ≤ B') : IntsAt w B' v zs := by
  obtain ⟨ad, cap, e, hx⟩ := h
  refine ⟨ad, cap, e, fun hne => ?_⟩
  obtain ⟨g, o, ea, hg, hcs⟩ := hx hne
  exact ⟨g, o, ea, by omega, hcs⟩
theorem total_len {cl : List (List OpT)} {l : List OpT} (h : l ∈ cl) : l.length ≤ total cl := by
  have : ∀ cl : List (List OpT), l ∈ cl → l.length ≤ (cl.map List.length).sum := fun cl => by
    induction cl with
    | nil => intro h; cases h
    | cons a r ih =>
      intro h
      rw [List.map_cons, List.sum_cons]
      rcases List.mem_cons.1 h with rfl | h
      · omega
      · have := ih h; omega
  have := this cl h
  unfold total; omega

/-- Play and callsOf, one after the other. -/
theorem play_hist {cl : List (List OpT)} (zs : List Int) (hk : ∀ l ∈ cl, ∀ o ∈ l, In64 o.2.1) (ht : total cl ≤ 2147483647) (k : Nat) (hab : able (iter zs (begin0 cl) k) = []) : Hist cl (iter zs (begin0 cl) k).ms ∧ (iter zs (begin0 cl) k).ms.length ≤ 100000000000 := by
  refine ⟨(PInv.iterates hk zs k).hist_end hab, ?_⟩
  have h0 : StOk (begin0 cl) := (PInv.begin hk).ok
  have h1 := (iter_ms (zs := zs) h0 k).2
  have h2 := mu_le cl
  have h3 : (begin0 cl).ms.length = 0 := rfl
  omega

/-- The cells of the calls. -/
theorem rows_cells {w : World} {B : Nat} {lv : Value} {ms : List MomT} {L : List Nat} {rows : List (List Value)} (h : w.ownsRow B 47 9 lv rows.length rows.flatten) (ha : All2 (CallRow ms) L rows) :
    ∃ ad cap, lv = .slice ad rows.length cap ∧ (0 < rows.length → ∃ g, ad = some ⟨g, 0, none⟩ ∧ g < w.heap.size ∧ ∀ j (h1 : j < L.length), ∃ m, ms[L[j]]? = some m ∧ w.cell? ⟨g, j * 9, none⟩ = some (vI (L[j] : Nat)) ∧ w.cell? ⟨g, j * 9 + 2, none⟩ = some (vI m.op.1) ∧ w.cell? ⟨g, j * 9 + 3, none⟩ = some (vI m.op.2.1) ∧ w.cell? ⟨g, j * 9 + 4, none⟩ = some (.string m.op.2.2)) := by
  have hlen := ha.len
  rcases h.2 with ⟨h2, h3⟩ | ⟨g, cap, cur, e, h3, h4, h5, h6, h7, h8⟩
  · exact ⟨none, 0, by rw [h2, h3], fun hne => by omega⟩
  · refine ⟨_, cap, e, fun _ => ⟨g, rfl, heap_lt h4, fun j hj => ?_⟩⟩
    have hj' : j < rows.length := by omega
    have h9 : ∀ r ∈ rows, r.length = 9 := fun r hr => by
      obtain ⟨t, ht, rfl⟩ := List.getElem_of_mem hr
      exact (ha.get t (by omega) ht).len
    have hc : ∀ t, t < 9 → w.cell? ⟨g, j * 9 + t, none⟩ = (rows[j])[t]? := fun t ht => by
      rw [cell_of h4]
      have : cur[j * 9 + t]? = (rows.flatten)[j * 9 + t]? := by rw [← h8, List.getElem?_take, if_pos (by omega), Array.getElem?_toList]
      rw [this, flat_get h9 j t hj' ht]
    obtain ⟨k, m, m', ka, kn, kc, va, vn, vc, hm, -, -, er⟩ := ha.get j hj hj'
    rw [er] at hc
    exact ⟨m, hm, hc 0 (by omega), hc 2 (by omega), hc 3 (by omega), hc 4 (by omega)⟩


/-- Behind the counters no known operation is left. -/
def Und (cl : List (List OpT)) (A : List Nat) : Prop := A.length = cl.length ∧ ∀ (c : Nat) (l : List OpT) (a : Nat), cl[c]? = some l → A[c]? = some a → a ≤ l.length ∧ ∀ o ∈ l.drop a, knw o = false
/-- How far a counter has to go. -/
def leftOf (w : World) (ab c nl : Nat) : Nat := match w.cell? ⟨ab, c, none⟩ with | some (.int _ q) => nl - q.toNat | _ => 0
theorem AtW.drewN {w : World} {ab : Nat} {A : List Nat} (h : AtW w ab A) (N : Nat) : AtW (w.drewN N) ab A := h
theorem AtW.step {w : World} {ab : Nat} {A : List Nat} (h : AtW w ab A) {c a : Nat} (ha : A[c]? = some a) (N : Nat) : AtW ((w.drewN N).setCell ⟨ab, c, none⟩ (.int .i64 ((a : Int) + 1))) ab (A.set c (a + 1)) := by
  have := (h.drewN N).set c (a + 1)
  exact this
theorem AtW.left {w : World} {ab : Nat} {A : List Nat} (h : AtW w ab A) {c a nl : Nat} (ha : A[c]? = some a) : leftOf w ab c nl = nl - a := by
  unfold leftOf
  rw [h.cell ha]
  simp
theorem AtW.less {w : World} {ab : Nat} {A : List Nat} (h : AtW w ab A) {c a nl : Nat} (ha : A[c]? = some a) (hlt : a < nl) (N : Nat) : leftOf ((w.drewN N).setCell ⟨ab, c, none⟩ (.int .i64 ((a : Int) + 1))) ab c nl < leftOf w ab c nl := by
  have hc : c < A.length := (List.getElem?_eq_some_iff.1 ha).1
  rw [(h.step ha N).left (a := a + 1) (by rw [List.getElem?_set_self hc]), h.left ha]
  omega
theorem drop_cons {l : List OpT} {a : Nat} {o : OpT} {r : List OpT} (h : l.drop a = o :: r) : ∃ hl : a < l.length, l[a] = o := by
  rcases Nat.lt_or_ge a l.length with hl | hl
  · refine ⟨hl, ?_⟩
    rw [List.drop_eq_getElem_cons hl] at h
    injection h
  · rw [List.drop_eq_nil_of_le hl] at h; cases h
theorem begsTo_le (ms : List MomT) (i : Nat) : (begsTo ms i).length ≤ i := by
  have := List.length_filter_le (isBeg ms) (List.range i)
  rw [List.length_range] at this
  exact this
end Go.Proofs.Ytgcekpmkniipfaa
