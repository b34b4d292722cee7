import Derived.Test.YtmdlebolmhnhaaaA5
namespace Go.Proofs.Ytmdlebolmhnhaaa
open Go.RowKit (wrap32 wrap64)
open Go.Maps (Keyed)
set_option linter.unusedVariables false
set_option linter.unusedSimpArgs false

def setGlobalX (a : Abs) (n : Int) (x : Val) : Abs × Int :=
  if (0 ≤ n ∧ n < a.gl.length) ∧ rightB a.made x = true then ({ a with gl := a.gl.set n.toNat x }, 0) else (a, 1)

set_option maxRecDepth 100000 in
set_option maxHeartbeats 1000000 in
theorem setGlobal_any (b : Nat) (g : Gh) (a : Abs) (n : Int) (x : Val) (w : World) (h : Mem w b g a) :
    Calls Try.prog 15 #[.pointer (some ⟨b, 0, none⟩), vI n, vv x] w fun e w' => e = .returned (vI (setGlobalX a n x).2) ∧ Mem w' b g (setGlobalX a n x).1 ∧ Fr (fun j => g.own j ≠ 0) w w' := by
  have hM := h.alloc (.cells #[vI x.1, vI x.2] 32)
  have A2 := heap_alloc_last w (.cells #[vI x.1, vI x.2] 32)
  have hF : Fr (fun j => g.own j ≠ 0) w (w.alloc (.cells #[vI x.1, vI x.2] 32)) := Fr.alloc (Fr.refl _ w) _
  go_enter Try.func15, Try.ntmps15
  go_wp2_with fail
  generalize w.alloc (.cells #[vI x.1, vI x.2] 32) = w1 at *
  have f0 := hM.facts.1
  refine (hasGlobal_any b _ _ n w1 f0).mono ?_
  rintro e w2 ⟨rfl, rfl⟩
  have d3 : w2.cell? ⟨w.heap.size, 0, none⟩ = some (vI x.1) := by rw [cell_of A2]; rfl
  have d4 : w2.cell? ⟨w.heap.size, 1, none⟩ = some (vI x.2) := by rw [cell_of A2]; rfl
  by_cases hn : 0 ≤ n ∧ n < a.gl.length
  · rw [show decide (0 ≤ n ∧ n < a.gl.length) = true from decide_eq_true hn]
    go_wp2_with fail
    refine (right_any b a.made x w2 hM.facts.2.1 hM.lt).mono ?_
    rintro e w3 ⟨rfl, hw3⟩
    have hF3 : Fr (fun _ => False) w2 w3 := by rw [hw3]; exact Fr.alloc (Fr.refl _ w2) _
    have hM3 := hM.keep hF3
    have B2 := (hF3.block _ (heap_lt A2) (fun h => h)).trans A2
    have hF' := hF.trans (hF3.mono (fun _ _ h => h.elim))
    clear hw3 d3 d4 hM hF hF3 A2 f0
    cases hr : rightB a.made x with
    | false =>
      have HX : Hd (setGlobalX a n x = (a, 1)) := by unfold Hd; simp [setGlobalX, hr]
      go_wp2_with fail
      go_ret
      rw [HX.out]
      exact ⟨rfl, hM3, hF'⟩
    | true =>
      obtain ⟨i, rfl⟩ := Int.eq_ofNat_of_zero_le hn.1
      have hi : i < a.gl.length := by omega
      have HX : Hd (setGlobalX a i x = ({ a with gl := a.gl.set i x }, 0)) := by unfold Hd; simp [setGlobalX, hi, hr]
      have HS : Hd _ := hM3.drew.setGlobal hi x
      have f0 := hM3.facts.1
      have d3 : w3.cell? ⟨w.heap.size, 0, none⟩ = some (vI x.1) := by rw [cell_of B2]; rfl
      have d4 : w3.cell? ⟨w.heap.size, 1, none⟩ = some (vI x.2) := by rw [cell_of B2]; rfl
      have m1 : w3.cell? ⟨g.gb, i * 2, none⟩ = some (vI a.gl[i].1) := by
        rw [cell_of hM3.glob, Nat.mul_comm]; simpa using flat_fst a.gl i hi
      have m2 : w3.cell? ⟨g.gb, i * 2 + 1, none⟩ = some (vI a.gl[i].2) := by
        rw [cell_of hM3.glob, Nat.mul_comm]; simpa using flat_snd a.gl i hi
      have z1 : w3.frozen? ⟨g.gb, i * 2, none⟩ = false := frozen_of hM3.glob _
      have z2 : w3.frozen? ⟨g.gb, i * 2 + 1, none⟩ = false := frozen_of hM3.glob _
      have hi0 : (0 : Int) ≤ i := by omega
      have hi1 : (i : Int) < a.gl.length := by omega
      have hgl := h.glen
      clear hM3 hr h
      go_wp2_with fail
      refine wp_region_still_tail 7 mixed (by kernel_rfl) ?_
      simp only [List.take_succ_cons, List.take_zero, List.drop_succ_cons, List.drop_zero]
      repeat still_step
      refine wpStill_nil ?_
      go_wp2_with fail
      go_ret
      rw [HX.out]
      exact ⟨rfl, HS.out.1, (hF'.drew).trans HS.out.2⟩
  · rw [show decide (0 ≤ n ∧ n < a.gl.length) = false from decide_eq_false hn]
    have HX : Hd (setGlobalX a n x = (a, 1)) := by unfold Hd; simp only [setGlobalX, hn, false_and, if_false]
    go_wp2_with fail
    go_ret
    rw [HX.out]
    exact ⟨rfl, hM, hF⟩

def storeX (a : Abs) (v : Val) (f : Int) (x : Val) : Abs × Int :=
  if rightB a.made v = false ∨ rightB a.made x = false then (a, 1) else
  if v.1 ≠ 2 then (a, 31) else
  match a.cells v.2.toNat with
  | none => (a, 32)
  | some l => if 0 ≤ f ∧ f < l.length then ({ a with cells := upd a.cells v.2.toNat (some (l.set f.toNat x)) }, 0) else (a, 33)

end Go.Proofs.Ytmdlebolmhnhaaa
