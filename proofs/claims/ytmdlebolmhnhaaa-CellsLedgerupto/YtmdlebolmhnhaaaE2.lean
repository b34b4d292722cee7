import Derived.Test.YtmdlebolmhnhaaaE1
import Derived.Deep.Onto
namespace Go.Proofs.Ytmdlebolmhnhaaa
open Go.RowKit (wrap32 wrap64)
open Go.Maps (Keyed)
set_option linter.unusedVariables false
set_option linter.unusedSimpArgs false

set_option maxRecDepth 100000 in
set_option maxHeartbeats 1000000 in
theorem one_live (b : Nat) (g : Gh) (a : Abs) (o : OpR) (w : World) (h : Mem w b g a) {N : Nat} (hf : Fine N a) (hN : N ≤ 10000000000000) (hk : o.kind = 9) :
    Calls Try.prog 20 #[ptr b, opV o] w fun e w' => ∃ v, e = .returned (.tuple #[vI 0, vv (0, 0), v, vI 0]) ∧ w'.ownsRow w.heap.size 3 1 v (liveX a).length ((liveX a).map vI) ∧ Mem w' b g a ∧ Fr (fun _ => False) w w' := by
  obtain ⟨kind, on, n, heap, v, x, ca, cl, cc⟩ := o
  simp only at hk
  subst hk
  obtain ⟨A1, A2, A3, hF⟩ := alloc2 w (.cells (opC ⟨9, on, n, heap, v, x, ca, cl, cc⟩) 44) (.cells #[vI 0, vI 0] 32)
  have hM := h.keep hF
  have r0 : g.own (w.heap.size + 1) = 0 := by
    by_cases h0 : g.own (w.heap.size + 1) = 0
    · exact h0
    · have := h.olt _ h0; omega
  go_enter Try.func20, Try.ntmps20
  go_wp2_with fail
  generalize (w.alloc (.cells (opC ⟨9, on, n, heap, v, x, ca, cl, cc⟩) 44)).alloc (.cells #[vI 0, vI 0] 32) = w1 at *
  have hl1 : w.heap.size + 1 < w1.heap.size := heap_lt A2
  refine (live_any b g a w1 hM (by have := hf.made; omega)).mono ?_
  rintro e w2 ⟨lv, rfl, hrow, hF2⟩
  have B2 := (hF2.block _ (heap_lt A2) (fun e => e)).trans A2
  have HR : Hd _ := (hM.keep hF2).result r0 (((0, 0) : Val))
  have hFF : Hd (Fr (fun _ => False) w w2) := hF.trans hF2
  have HROW : Hd ((set2 w2 (w.heap.size + 1) 0 ((0, 0) : Val)).ownsRow w.heap.size 3 1 lv (liveX a).length ((liveX a).map vI)) := by
    refine ownsRow_fr (World.ownsRow.mono hrow hF.size) (set2_fr w2 _ 0 _) (fun j hj e => ?_)
    rcases hrow.2 with ⟨h2, -⟩ | ⟨g7, cap, cur, e7, h3, -⟩
    · rw [h2] at hj; cases hj
    · rw [e7] at hj; cases hj; have e' : g7 = w.heap.size + 1 := e; omega
  have d0 : w2.cell? ⟨w.heap.size + 1, 0, none⟩ = some (vI 0) := by rw [cell_of B2]; rfl
  have d1 : w2.cell? ⟨w.heap.size + 1, 1, none⟩ = some (vI 0) := by rw [cell_of B2]; rfl
  have z0 : w2.frozen? ⟨w.heap.size + 1, 0, none⟩ = false := frozen_of B2 0
  have z1 : w2.frozen? ⟨w.heap.size + 1, 1, none⟩ = false := frozen_of B2 1
  have l2 : w.heap.size + 1 < w2.heap.size := heap_lt B2
  obtain ⟨q0, q1⟩ := res_cells B2 (vI (((0, 0) : Val)).1) (vI (((0, 0) : Val)).2)
  clear hF2 hM A1 A2 hF h hrow
  go_wp2_with fail
  refine bodyPost_ret (by simp [results, Try.results20, go_sem, q0, q1]; try rfl) rfl ?_
  exact ⟨lv, rfl, HROW.out, HR.out.1, hFF.out.then HR.out.2 (fun j hj e => by omega)⟩

end Go.Proofs.Ytmdlebolmhnhaaa
