import Derived.Test.YtmdlebolmhnhaabA3J
namespace Go.Proofs.Ytmdlebolmhnhaab
open Go.RowKit (wrap32 wrap64)
open Go.Maps (Keyed)
set_option linter.unusedVariables false
set_option linter.unusedSimpArgs false

theorem ne_own {g : Gh} {j k p q : Nat} (h1 : g.own j = p) (h2 : g.own k = q) (h : p ≠ q) : j ≠ k := fun e => h (by rw [← h1, ← h2, e])

/-- Two cells that stand one behind the other are written. -/
abbrev set2 (w : World) (k o : Nat) (x : Val) : World := (w.setCell ⟨k, o, none⟩ (vI x.1)).setCell ⟨k, o + 1, none⟩ (vI x.2)

theorem set2_fr (w : World) (k o : Nat) (x : Val) : Fr (fun j => j = k) w (set2 w k o x) :=
  Fr.setCell (S := fun j => j = k) (Fr.setCell (S := fun j => j = k) (Fr.refl (fun j => j = k) w) _ _ (Or.inl rfl)) _ _ (Or.inl rfl)
theorem set2_row {w : World} {k i : Nat} {l : List Val} (h : w.heap[k]? = some (.cells (flat l).toArray 28)) (hi : i < l.length) (x : Val) : (set2 w k (i * 2) x).heap[k]? = some (.cells (flat (l.set i x)).toArray 28) := by
  rw [set_of (set_of h (i * 2) (vI x.1)) (i * 2 + 1) (vI x.2), Nat.mul_comm, ← flat_set l i x hi]
  simp

def upd (c : Nat → Option (List Val)) (i : Nat) (o : Option (List Val)) : Nat → Option (List Val) := fun j => if j = i then o else c j

/-- A field is another value now. -/
theorem Mem.store {w : World} {b : Nat} {g : Gh} {a : Abs} (h : Mem w b g a) {i k : Nat} {l : List Val} (hc : a.cells i = some l) (hk : k < l.length) (x : Val) :
    Mem (set2 w (g.blk i) (k * 2) x) b g { a with cells := upd a.cells i (some (l.set k x)) } ∧ Fr (fun j => g.own j ≠ 0) w (set2 w (g.blk i) (k * 2) x) := by
  obtain ⟨c1, c2, c3, c4, c5⟩ := h.cell i l hc
  have f := set2_fr w (g.blk i) (k * 2) x
  have n1 : b ≠ g.blk i := ne_own h.ob c2 (by omega)
  have n2 : g.gb ≠ g.blk i := ne_own h.og c2 (by omega)
  have n3 : g.tb ≠ g.blk i := ne_own h.ot c2 (by omega)
  refine ⟨{ blk0 := ?_, glob := ?_, map := ownsMap_fr h.map f n3, has := ?_, atk := ?_, cell := ?_, frs := ?_, pss := ?_, ob := h.ob, og := h.og, ot := h.ot, ofr := h.ofr, ops := h.ops, olt := ?_, glen := h.glen, pos := h.pos }, f.mono (fun j _ e => by subst e; omega)⟩
  · rw [f.block b (heap_lt h.blk0) n1]; exact h.blk0
  · rw [f.block _ (heap_lt h.glob) n2]; exact h.glob
  · intro j
    rw [h.has j]
    simp only [upd]
    split
    · rename_i e; subst e; rw [hc]; rfl
    · rfl
  · intro j m hj
    simp only [upd] at hj
    split at hj
    · rename_i e
      subst e
      cases hj
      rw [h.atk j l hc, List.length_set]
    · exact h.atk j m hj
  · intro j m hj
    simp only [upd] at hj
    split at hj
    · rename_i e
      subst e
      cases hj
      exact ⟨set2_row c1 hk x, c2, c3, c4, by rw [List.length_set]; exact c5⟩
    · rename_i e
      obtain ⟨d1, d2, d3⟩ := h.cell j m hj
      exact ⟨by rw [f.block _ (heap_lt d1) (ne_own d2 c2 (by omega))]; exact d1, d2, d3⟩
  · exact ownsRow_fr h.frs f (fun j e => ne_own (h.ofr j e) c2 (by omega))
  · exact ownsRow_fr h.pss f (fun j e => ne_own (h.ops j e) c2 (by omega))
  · exact fun j hj => Nat.lt_of_lt_of_le (h.olt j hj) f.size

/-- A global is another value now. -/
theorem Mem.setGlobal {w : World} {b : Nat} {g : Gh} {a : Abs} (h : Mem w b g a) {k : Nat} (hk : k < a.gl.length) (x : Val) :
    Mem (set2 w g.gb (k * 2) x) b g { a with gl := a.gl.set k x } ∧ Fr (fun j => g.own j ≠ 0) w (set2 w g.gb (k * 2) x) := by
  have f := set2_fr w g.gb (k * 2) x
  have c2 := h.og
  have n1 : b ≠ g.gb := ne_own h.ob c2 (by omega)
  have n3 : g.tb ≠ g.gb := ne_own h.ot c2 (by omega)
  refine ⟨{ blk0 := ?_, glob := set2_row h.glob hk x, map := ownsMap_fr h.map f n3, has := h.has, atk := h.atk, cell := ?_, frs := ?_, pss := ?_, ob := h.ob, og := h.og, ot := h.ot, ofr := h.ofr, ops := h.ops, olt := ?_, glen := ?_, pos := h.pos }, f.mono (fun j _ e => by subst e; omega)⟩
  · rw [f.block b (heap_lt h.blk0) n1, h.blk0]; simp [memC]
  · intro j m hj
    obtain ⟨d1, d2, d3⟩ := h.cell j m hj
    exact ⟨by rw [f.block _ (heap_lt d1) (ne_own d2 c2 (by omega))]; exact d1, d2, d3⟩
  · exact ownsRow_fr h.frs f (fun j e => ne_own (h.ofr j e) c2 (by omega))
  · exact ownsRow_fr h.pss f (fun j e => ne_own (h.ops j e) c2 (by omega))
  · exact fun j hj => Nat.lt_of_lt_of_le (h.olt j hj) f.size
  · simpa using h.glen

def globalX (a : Abs) (n : Int) : Val × Int := if 0 ≤ n ∧ n < a.gl.length then (a.gl.getD n.toNat (0, 0), 0) else ((0, 0), 1)

set_option maxRecDepth 100000 in
set_option maxHeartbeats 1000000 in
theorem global_any (b : Nat) (g : Gh) (a : Abs) (n : Int) (w : World) (h : Mem w b g a) :
    Calls Try.prog 23 #[.pointer (some ⟨b, 0, none⟩), vI n] w fun e w' => e = .returned (.tuple #[vv (globalX a n).1, vI (globalX a n).2]) ∧ Fr (fun _ => False) w w' := by
  have hM := h.alloc (.cells #[vI 0, vI 0] 28)
  have A2 := heap_alloc_last w (.cells #[vI 0, vI 0] 28)
  have hF : Fr (fun _ => False) w (w.alloc (.cells #[vI 0, vI 0] 28)) := Fr.alloc (Fr.refl _ w) _
  go_enter Try.func23, Try.ntmps23
  go_wp2_with fail
  generalize w.alloc (.cells #[vI 0, vI 0] 28) = w1 at *
  have f0 := hM.facts.1
  refine (hasGlobal_any b _ _ n w1 f0).mono ?_
  rintro e w2 ⟨rfl, rfl⟩
  have d3 : w2.cell? ⟨w.heap.size, 0, none⟩ = some (vI 0) := by rw [cell_of A2]; rfl
  have d4 : w2.cell? ⟨w.heap.size, 1, none⟩ = some (vI 0) := by rw [cell_of A2]; rfl
  have z3 : w2.frozen? ⟨w.heap.size, 0, none⟩ = false := frozen_of A2 0
  have z4 : w2.frozen? ⟨w.heap.size, 1, none⟩ = false := frozen_of A2 1
  have hlt : w.heap.size < w2.heap.size := heap_lt A2
  by_cases hn : 0 ≤ n ∧ n < a.gl.length
  · obtain ⟨i, rfl⟩ := Int.eq_ofNat_of_zero_le hn.1
    have hi : i < a.gl.length := by omega
    have HX : Hd (globalX a i = (a.gl[i], 0)) := by unfold Hd; simp [globalX, hi]
    rw [show decide (0 ≤ (i : Int) ∧ (i : Int) < a.gl.length) = true from decide_eq_true hn]
    have m1 : w2.cell? ⟨g.gb, i * 2, none⟩ = some (vI a.gl[i].1) := by
      rw [cell_of hM.glob, Nat.mul_comm]; simpa using flat_fst a.gl i hi
    have m2 : w2.cell? ⟨g.gb, i * 2 + 1, none⟩ = some (vI a.gl[i].2) := by
      rw [cell_of hM.glob, Nat.mul_comm]; simpa using flat_snd a.gl i hi
    have hi0 : (0 : Int) ≤ i := by omega
    have hi1 : (i : Int) < a.gl.length := by omega
    have hgl := h.glen
    generalize a.gl[i] = x at *
    go_wp2_with fail
    obtain ⟨q0, q1⟩ := res_cells A2 (vI x.1) (vI x.2)
    refine bodyPost_ret (by simp [results, Try.results23, go_sem, q0, q1]; try rfl) rfl ?_
    exact ⟨by rw [HX.out], Fr.setCell (Fr.setCell hF _ _ (Or.inr (by simp))) _ _ (Or.inr (by simp))⟩
  · have HX : Hd (globalX a n = ((0, 0), 1)) := by unfold Hd; simp [globalX, hn]
    rw [show decide (0 ≤ n ∧ n < a.gl.length) = false from decide_eq_false hn]
    go_wp2_with fail
    obtain ⟨q0, q1⟩ := res_cells A2 (vI 0) (vI 0)
    refine bodyPost_ret (by simp [results, Try.results23, go_sem, q0, q1]; try rfl) rfl ?_
    exact ⟨by rw [HX.out], Fr.setCell (Fr.setCell hF _ _ (Or.inr (by simp))) _ _ (Or.inr (by simp))⟩

end Go.Proofs.Ytmdlebolmhnhaab

namespace Go.Proofs.Ytmdlebolmhnhaab
open Go.RowKit (wrap32 wrap64)
open Go.Maps (Keyed)
set_option linter.unusedVariables false
set_option linter.unusedSimpArgs false

def setGlobalX (a : Abs) (n : Int) (x : Val) : Abs × Int :=
  if (0 ≤ n ∧ n < a.gl.length) ∧ rightB a.made x = true then ({ a with gl := a.gl.set n.toNat x }, 0) else (a, 1)

set_option maxRecDepth 100000 in
set_option maxHeartbeats 1000000 in
theorem setGlobal_any (b : Nat) (g : Gh) (a : Abs) (n : Int) (x : Val) (w : World) (h : Mem w b g a) :
    Calls Try.prog 37 #[.pointer (some ⟨b, 0, none⟩), vI n, vv x] w fun e w' => e = .returned (vI (setGlobalX a n x).2) ∧ Mem w' b g (setGlobalX a n x).1 ∧ Fr (fun j => g.own j ≠ 0) w w' := by
  have hM := h.alloc (.cells #[vI x.1, vI x.2] 28)
  have A2 := heap_alloc_last w (.cells #[vI x.1, vI x.2] 28)
  have hF : Fr (fun j => g.own j ≠ 0) w (w.alloc (.cells #[vI x.1, vI x.2] 28)) := Fr.alloc (Fr.refl _ w) _
  go_enter Try.func37, Try.ntmps37
  go_wp2_with fail
  generalize w.alloc (.cells #[vI x.1, vI x.2] 28) = w1 at *
  have f0 := hM.facts.1
  refine (hasGlobal_any b _ _ n w1 f0).mono ?_
  rintro e w2 ⟨rfl, rfl⟩
  have d3 : w2.cell? ⟨w.heap.size, 0, none⟩ = some (vI x.1) := by rw [cell_of A2]; rfl
  have d4 : w2.cell? ⟨w.heap.size, 1, none⟩ = some (vI x.2) := by rw [cell_of A2]; rfl
  by_cases hn : 0 ≤ n ∧ n < a.gl.length
  · rw [show decide (0 ≤ n ∧ n < a.gl.length) = true from decide_eq_true hn]
    go_wp2_with fail
    refine (right_any b a.made x w2 hM.facts.2.1 hM.lt).mono ?_
    rintro e w3 ⟨rfl, hw3⟩
    have hF3 : Fr (fun _ => False) w2 w3 := by rw [hw3]; exact Fr.alloc (Fr.refl _ w2) _
    have hM3 := hM.keep hF3
    have B2 := (hF3.block _ (heap_lt A2) (fun h => h)).trans A2
    have hF' := hF.trans (hF3.mono (fun _ _ h => h.elim))
    clear hw3 d3 d4 hM hF hF3 A2 f0
    cases hr : rightB a.made x with
    | false =>
      have HX : Hd (setGlobalX a n x = (a, 1)) := by unfold Hd; simp [setGlobalX, hr]
      go_wp2_with fail
      go_ret
      rw [HX.out]
      exact ⟨rfl, hM3, hF'⟩
    | true =>
      obtain ⟨i, rfl⟩ := Int.eq_ofNat_of_zero_le hn.1
      have hi : i < a.gl.length := by omega
      have HX : Hd (setGlobalX a i x = ({ a with gl := a.gl.set i x }, 0)) := by unfold Hd; simp [setGlobalX, hi, hr]
      have HS : Hd _ := hM3.drew.setGlobal hi x
      have f0 := hM3.facts.1
      have d3 : w3.cell? ⟨w.heap.size, 0, none⟩ = some (vI x.1) := by rw [cell_of B2]; rfl
      have d4 : w3.cell? ⟨w.heap.size, 1, none⟩ = some (vI x.2) := by rw [cell_of B2]; rfl
      have m1 : w3.cell? ⟨g.gb, i * 2, none⟩ = some (vI a.gl[i].1) := by
        rw [cell_of hM3.glob, Nat.mul_comm]; simpa using flat_fst a.gl i hi
      have m2 : w3.cell? ⟨g.gb, i * 2 + 1, none⟩ = some (vI a.gl[i].2) := by
        rw [cell_of hM3.glob, Nat.mul_comm]; simpa using flat_snd a.gl i hi
      have z1 : w3.frozen? ⟨g.gb, i * 2, none⟩ = false := frozen_of hM3.glob _
      have z2 : w3.frozen? ⟨g.gb, i * 2 + 1, none⟩ = false := frozen_of hM3.glob _
      have hi0 : (0 : Int) ≤ i := by omega
      have hi1 : (i : Int) < a.gl.length := by omega
      have hgl := h.glen
      clear hM3 hr h
      go_wp2_with fail
      refine wp_region_still_tail 7 mixed (by kernel_rfl) ?_
      simp only [List.take_succ_cons, List.take_zero, List.drop_succ_cons, List.drop_zero]
      repeat still_step
      refine wpStill_nil ?_
      go_wp2_with fail
      go_ret
      rw [HX.out]
      exact ⟨rfl, HS.out.1, (hF'.drew).trans HS.out.2⟩
  · rw [show decide (0 ≤ n ∧ n < a.gl.length) = false from decide_eq_false hn]
    have HX : Hd (setGlobalX a n x = (a, 1)) := by unfold Hd; simp only [setGlobalX, hn, false_and, if_false]
    go_wp2_with fail
    go_ret
    rw [HX.out]
    exact ⟨rfl, hM, hF⟩

def storeX (a : Abs) (v : Val) (f : Int) (x : Val) : Abs × Int :=
  if rightB a.made v = false ∨ rightB a.made x = false then (a, 1) else
  if v.1 ≠ 2 then (a, 31) else
  match a.cells v.2.toNat with
  | none => (a, 32)
  | some l => if 0 ≤ f ∧ f < l.length then ({ a with cells := upd a.cells v.2.toNat (some (l.set f.toNat x)) }, 0) else (a, 33)

end Go.Proofs.Ytmdlebolmhnhaab
