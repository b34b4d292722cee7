import Derived.Test.YtngbakjalmgciaaGreatQB3
namespace Go.Proofs.YtngbakjalmgciaaGreat
open Go.RowKit (wrap32 wrap64)
set_option linter.unusedVariables false
set_option linter.unusedSimpArgs false

def cmpI (x y : Int) : Int := if x < y then -1 else if y < x then 1 else 0

set_option maxRecDepth 100000 in
set_option maxHeartbeats 1000000 in
theorem isNaN_any (x : Int) (w : World) : Calls Tryz.prog 92 #[vI x] w fun e w' => e = .returned (.bool false) ∧ w' = w := by
  have hx : (x != x) = false := by simp
  go_enter Tryz.func92, Tryz.ntmps92
  go_wp2_with fail
  go_ret
  first
    | exact ⟨rfl, rfl⟩
    | (simp; done)

set_option maxRecDepth 100000 in
set_option maxHeartbeats 1000000 in
theorem compare_any (x y : Int) (w : World) : Calls Tryz.prog 80 #[vI x, vI y] w fun e w' => e = .returned (vI (cmpI x y)) ∧ w' = w := by
  unfold cmpI
  by_cases h1 : x < y
  · rw [if_pos h1]
    go_enter Tryz.func80, Tryz.ntmps80
    go_wp2_with (first
      | (go_at_call 92; refine (isNaN_any _ _).mono ?_; rintro _ _ ⟨rfl, rfl⟩))
    go_ret
    exact ⟨rfl, rfl⟩
  · rw [if_neg h1]
    have d1 : decide (x < y) = false := by simp; omega
    by_cases h2 : y < x
    · rw [if_pos h2]
      clear h1
      go_enter Tryz.func80, Tryz.ntmps80
      go_wp2_with (first
        | (go_at_call 92; refine (isNaN_any _ _).mono ?_; rintro _ _ ⟨rfl, rfl⟩))
      go_ret
      exact ⟨rfl, rfl⟩
    · rw [if_neg h2]
      have d2 : decide (y < x) = false := by simp; omega
      have d3 : decide (x > y) = false := by simp; omega
      clear h1 h2
      go_enter Tryz.func80, Tryz.ntmps80
      go_wp2_with (first
        | (go_at_call 92; refine (isNaN_any _ _).mono ?_; rintro _ _ ⟨rfl, rfl⟩))
      go_ret
      exact ⟨rfl, rfl⟩

abbrev kvV (x : Kv) : Value := .agg #[vI x.1, .string x.2]
set_option maxRecDepth 100000 in
set_option maxHeartbeats 1000000 in
theorem closure28 (x y : Kv) (W : World) : Calls Tryz.prog 79 #[kvV x, kvV y] W fun e w' => e = .returned (vI (cmpI x.1 y.1)) ∧ w' = (W.alloc (.cells #[vI x.1, .string x.2] 140)).alloc (.cells #[vI y.1, .string y.2] 140) := by
  obtain ⟨r, hr⟩ : ∃ r, Hd (r = cmpI x.1 y.1) := ⟨_, rfl⟩
  have hcon : ∀ w, Calls Tryz.prog 80 #[vI x.1, vI y.1] w fun e w' => e = .returned (vI r) ∧ w' = w := fun w => by rw [hr.out]; exact compare_any x.1 y.1 w
  rw [← hr.out]
  go_enter Tryz.func79, Tryz.ntmps79
  go_wp2_with (go_at_call 80; refine (hcon _).mono ?_; rintro _ _ ⟨rfl, rfl⟩)
  go_ret
  exact ⟨rfl, rfl⟩

/-- What a Snapshot tells. -/
structure Snap (a : Ab) (L : List Kv) : Prop where
  rise : L.Pairwise (fun x y => x.1 < y.1)
  mem : ∀ k v, (k, v) ∈ L ↔ a k = some v

theorem Snap.of {a : Ab} {L L' : List Kv} (h : LL a L (fun _ => True)) (hp : L'.Perm L) (hs : L'.Pairwise (fun x y => ¬ y.1 < x.1)) : Snap a L' := by
  have hn : (L'.map Prod.fst).Nodup := (hp.map Prod.fst).nodup_iff.2 h.nodup
  refine ⟨?_, fun k v => by rw [hp.mem_iff, h.mem]; simp⟩
  have h2 : L'.Pairwise (fun x y => x.1 ≠ y.1) := List.pairwise_map.1 hn
  exact (hs.and h2).imp (fun {x y} ⟨h1, h2⟩ => by omega)

/-- It is one list. -/
theorem Snap.unique {a : Ab} {L L' : List Kv} (h : Snap a L) (h' : Snap a L') : L = L' := by
  have key : ∀ {L L' : List Kv}, L.Pairwise (fun x y => x.1 < y.1) → L'.Pairwise (fun x y => x.1 < y.1) → (∀ e, e ∈ L ↔ e ∈ L') → L = L' := by
    intro L
    induction L with
    | nil =>
      intro L' _ _ hm
      cases L' with
      | nil => rfl
      | cons y r => exact absurd ((hm y).2 (by simp)) (by simp)
    | cons x r ih =>
      intro L' h1 h2 hm
      cases L' with
      | nil => exact absurd ((hm x).1 (by simp)) (by simp)
      | cons y s =>
        have hxy : x = y := by
          rcases List.mem_cons.1 ((hm x).1 (by simp)) with e | e
          · exact e
          · rcases List.mem_cons.1 ((hm y).2 (by simp)) with e2 | e2
            · exact e2.symm
            · have a1 := (List.pairwise_cons.1 h1).1 y e2
              have a2 := (List.pairwise_cons.1 h2).1 x e
              omega
        subst hxy
        congr 1
        refine ih (List.pairwise_cons.1 h1).2 (List.pairwise_cons.1 h2).2 (fun e => ?_)
        constructor
        · intro he
          rcases List.mem_cons.1 ((hm e).1 (by simp [he])) with e2 | e2
          · subst e2; exact absurd ((List.pairwise_cons.1 h1).1 e he) (by omega)
          · exact e2
        · intro he
          rcases List.mem_cons.1 ((hm e).2 (by simp [he])) with e2 | e2
          · subst e2; exact absurd ((List.pairwise_cons.1 h2).1 e he) (by omega)
          · exact e2
  exact key h.rise h'.rise (fun ⟨k, v⟩ => by rw [h.mem, h'.mem])

/-- Pairs as they lie. -/
def PA (w : World) (v : Value) (L : List Kv) : Prop := ∃ ad cap, v = .slice ad L.length cap ∧ (L ≠ [] → ∃ g, ad = some ⟨g, 0, none⟩ ∧ g < w.heap.size ∧ ∀ i (h : i < L.length), w.cell? ⟨g, i * 2, none⟩ = some (vI L[i].1) ∧ w.cell? ⟨g, i * 2 + 1, none⟩ = some (.string L[i].2))
theorem pCells_get : ∀ (es : List Kv) (i : Nat) (h : i < es.length), (pCells es)[i * 2]? = some (vI es[i].1) ∧ (pCells es)[i * 2 + 1]? = some (.string es[i].2)
  | e :: r, 0, _ => ⟨rfl, rfl⟩
  | e :: r, i + 1, h => by
    have := pCells_get r i (by simpa using h)
    rw [show (i + 1) * 2 = i * 2 + 1 + 1 by omega]
    simpa [pCells] using this
end Go.Proofs.YtngbakjalmgciaaGreat
