import Derived.Test.YtmdlebolmhnhaaaD1
namespace Go.Proofs.Ytmdlebolmhnhaaa
open Go.RowKit (wrap32 wrap64)
open Go.Maps (Keyed)
set_option linter.unusedVariables false
set_option linter.unusedSimpArgs false

set_option maxRecDepth 100000 in
set_option maxHeartbeats 1000000 in
theorem one_push (b : Nat) (g : Gh) (a : Abs) (o : OpR) (w : World) (h : Mem w b g a) {N : Nat} (hf : Fine N a) (hN : N ≤ 10000000000000) (hk : o.kind = 2) :
    Calls Try.prog 20 #[ptr b, opV o] w (OneEnds b g (pushX a, 0, (0, 0), 0) w) := by
  obtain ⟨kind, on, n, heap, v, x, ca, cl, cc⟩ := o
  simp only at hk
  subst hk
  obtain ⟨A1, A2, A3, hF⟩ := alloc2 w (.cells (opC ⟨2, on, n, heap, v, x, ca, cl, cc⟩) 44) (.cells #[vI 0, vI 0] 32)
  have hM := h.keep hF
  have r0 : g.own (w.heap.size + 1) = 0 := by
    by_cases h0 : g.own (w.heap.size + 1) = 0
    · exact h0
    · have := h.olt _ h0; omega
  go_enter Try.func20, Try.ntmps20
  go_wp2_with fail
  generalize (w.alloc (.cells (opC ⟨2, on, n, heap, v, x, ca, cl, cc⟩) 44)).alloc (.cells #[vI 0, vI 0] 32) = w1 at *
  have hl1 : w.heap.size + 1 < w1.heap.size := heap_lt A2
  refine (push_any b g a w1 hM (by have := hf.frs; omega)).mono ?_
  rintro e w2 ⟨g2, rfl, hM2, hF2, hE2⟩
  have B2 := (hF2.block _ (heap_lt A2) (fun e => e r0)).trans A2
  have r2 : g2.own (w.heap.size + 1) = 0 := (hE2 _ hl1).trans r0
  have HR : Hd _ := hM2.result r2 (((0, 0) : Val))
  have hFF : Hd (Fr (fun j => g.own j ≠ 0) w w2) := (hF.mono (fun _ _ h => h.elim)).trans hF2
  have hEE : Hd (Ext w.heap.size g g2) := fun k hk => hE2 k (by omega)
  have d0 : w2.cell? ⟨w.heap.size + 1, 0, none⟩ = some (vI 0) := by rw [cell_of B2]; rfl
  have d1 : w2.cell? ⟨w.heap.size + 1, 1, none⟩ = some (vI 0) := by rw [cell_of B2]; rfl
  have z0 : w2.frozen? ⟨w.heap.size + 1, 0, none⟩ = false := frozen_of B2 0
  have z1 : w2.frozen? ⟨w.heap.size + 1, 1, none⟩ = false := frozen_of B2 1
  have l2 : w.heap.size + 1 < w2.heap.size := heap_lt B2
  obtain ⟨q0, q1⟩ := res_cells B2 (vI (((0, 0) : Val)).1) (vI (((0, 0) : Val)).2)
  clear hM2 hF2 hE2 hM A1 A2 hF h
  go_wp2_with fail
  refine bodyPost_ret (by simp [results, Try.results20, go_sem, q0, q1]; try rfl) rfl ?_
  exact ⟨g2, rfl, HR.out.1, hFF.out.then HR.out.2 (fun j hj e => by omega), hEE.out⟩

set_option maxRecDepth 100000 in
set_option maxHeartbeats 1000000 in
theorem one_pop (b : Nat) (g : Gh) (a : Abs) (o : OpR) (w : World) (h : Mem w b g a) {N : Nat} (hf : Fine N a) (hN : N ≤ 10000000000000) (hk : o.kind = 3) :
    Calls Try.prog 20 #[ptr b, opV o] w (OneEnds b g ((popX a).1, 0, (0, 0), (popX a).2) w) := by
  obtain ⟨kind, on, n, heap, v, x, ca, cl, cc⟩ := o
  simp only at hk
  subst hk
  obtain ⟨A1, A2, A3, hF⟩ := alloc2 w (.cells (opC ⟨3, on, n, heap, v, x, ca, cl, cc⟩) 44) (.cells #[vI 0, vI 0] 32)
  have hM := h.keep hF
  have r0 : g.own (w.heap.size + 1) = 0 := by
    by_cases h0 : g.own (w.heap.size + 1) = 0
    · exact h0
    · have := h.olt _ h0; omega
  go_enter Try.func20, Try.ntmps20
  go_wp2_with fail
  generalize (w.alloc (.cells (opC ⟨3, on, n, heap, v, x, ca, cl, cc⟩) 44)).alloc (.cells #[vI 0, vI 0] 32) = w1 at *
  have hl1 : w.heap.size + 1 < w1.heap.size := heap_lt A2
  refine (pop_x b g a w1 hM hf hN).mono ?_
  rintro e w2 ⟨g2, rfl, hM2, hF2, hE2⟩
  generalize popX a = r at *
  have B2 := (hF2.block _ (heap_lt A2) (fun e => e r0)).trans A2
  have r2 : g2.own (w.heap.size + 1) = 0 := (hE2 _ hl1).trans r0
  have HR : Hd _ := hM2.result r2 (((0, 0) : Val))
  have hFF : Hd (Fr (fun j => g.own j ≠ 0) w w2) := (hF.mono (fun _ _ h => h.elim)).trans hF2
  have hEE : Hd (Ext w.heap.size g g2) := fun k hk => hE2 k (by omega)
  have d0 : w2.cell? ⟨w.heap.size + 1, 0, none⟩ = some (vI 0) := by rw [cell_of B2]; rfl
  have d1 : w2.cell? ⟨w.heap.size + 1, 1, none⟩ = some (vI 0) := by rw [cell_of B2]; rfl
  have z0 : w2.frozen? ⟨w.heap.size + 1, 0, none⟩ = false := frozen_of B2 0
  have z1 : w2.frozen? ⟨w.heap.size + 1, 1, none⟩ = false := frozen_of B2 1
  have l2 : w.heap.size + 1 < w2.heap.size := heap_lt B2
  obtain ⟨q0, q1⟩ := res_cells B2 (vI (((0, 0) : Val)).1) (vI (((0, 0) : Val)).2)
  clear hM2 hF2 hE2 hM A1 A2 hF h
  go_wp2_with fail
  refine bodyPost_ret (by simp [results, Try.results20, go_sem, q0, q1]; try rfl) rfl ?_
  exact ⟨g2, rfl, HR.out.1, hFF.out.then HR.out.2 (fun j hj e => by omega), hEE.out⟩

set_option maxRecDepth 100000 in
set_option maxHeartbeats 1000000 in
theorem one_store (b : Nat) (g : Gh) (a : Abs) (o : OpR) (w : World) (h : Mem w b g a) {N : Nat} (hf : Fine N a) (hN : N ≤ 10000000000000) (hk : o.kind = 6) :
    Calls Try.prog 20 #[ptr b, opV o] w (OneEnds b g ((storeX a o.v o.n o.w).1, 0, (0, 0), (storeX a o.v o.n o.w).2) w) := by
  obtain ⟨kind, on, n, heap, v, x, ca, cl, cc⟩ := o
  simp only at hk
  subst hk
  obtain ⟨A1, A2, A3, hF⟩ := alloc2 w (.cells (opC ⟨6, on, n, heap, v, x, ca, cl, cc⟩) 44) (.cells #[vI 0, vI 0] 32)
  have hM := h.keep hF
  have r0 : g.own (w.heap.size + 1) = 0 := by
    by_cases h0 : g.own (w.heap.size + 1) = 0
    · exact h0
    · have := h.olt _ h0; omega
  go_enter Try.func20, Try.ntmps20
  go_wp2_with fail
  generalize (w.alloc (.cells (opC ⟨6, on, n, heap, v, x, ca, cl, cc⟩) 44)).alloc (.cells #[vI 0, vI 0] 32) = w1 at *
  have hl1 : w.heap.size + 1 < w1.heap.size := heap_lt A2
  refine (store_any b g a v n x w1 hM (by have := hf.made; omega)).mono ?_
  rintro e w2 ⟨rfl, hM2, hF2⟩
  obtain ⟨g2, hg2⟩ : ∃ g2, g2 = g := ⟨g, rfl⟩
  have hE2 : Ext w1.heap.size g g2 := by rw [hg2]; exact Ext.refl _ _
  rw [← hg2] at hM2
  clear hg2
  generalize storeX a v n x = r at *
  have B2 := (hF2.block _ (heap_lt A2) (fun e => e r0)).trans A2
  have r2 : g2.own (w.heap.size + 1) = 0 := (hE2 _ hl1).trans r0
  have HR : Hd _ := hM2.result r2 (((0, 0) : Val))
  have hFF : Hd (Fr (fun j => g.own j ≠ 0) w w2) := (hF.mono (fun _ _ h => h.elim)).trans hF2
  have hEE : Hd (Ext w.heap.size g g2) := fun k hk => hE2 k (by omega)
  have d0 : w2.cell? ⟨w.heap.size + 1, 0, none⟩ = some (vI 0) := by rw [cell_of B2]; rfl
  have d1 : w2.cell? ⟨w.heap.size + 1, 1, none⟩ = some (vI 0) := by rw [cell_of B2]; rfl
  have z0 : w2.frozen? ⟨w.heap.size + 1, 0, none⟩ = false := frozen_of B2 0
  have z1 : w2.frozen? ⟨w.heap.size + 1, 1, none⟩ = false := frozen_of B2 1
  have l2 : w.heap.size + 1 < w2.heap.size := heap_lt B2
  obtain ⟨q0, q1⟩ := res_cells B2 (vI (((0, 0) : Val)).1) (vI (((0, 0) : Val)).2)
  clear hM2 hF2 hE2 hM A1 A2 hF h
  go_wp2_with fail
  refine bodyPost_ret (by simp [results, Try.results20, go_sem, q0, q1]; try rfl) rfl ?_
  exact ⟨g2, rfl, HR.out.1, hFF.out.then HR.out.2 (fun j hj e => by omega), hEE.out⟩

set_option maxRecDepth 100000 in
set_option maxHeartbeats 1000000 in
theorem one_set (b : Nat) (g : Gh) (a : Abs) (o : OpR) (w : World) (h : Mem w b g a) {N : Nat} (hf : Fine N a) (hN : N ≤ 10000000000000) (hk : o.kind = 8) :
    Calls Try.prog 20 #[ptr b, opV o] w (OneEnds b g ((setGlobalX a o.n o.v).1, 0, (0, 0), (setGlobalX a o.n o.v).2) w) := by
  obtain ⟨kind, on, n, heap, v, x, ca, cl, cc⟩ := o
  simp only at hk
  subst hk
  obtain ⟨A1, A2, A3, hF⟩ := alloc2 w (.cells (opC ⟨8, on, n, heap, v, x, ca, cl, cc⟩) 44) (.cells #[vI 0, vI 0] 32)
  have hM := h.keep hF
  have r0 : g.own (w.heap.size + 1) = 0 := by
    by_cases h0 : g.own (w.heap.size + 1) = 0
    · exact h0
    · have := h.olt _ h0; omega
  go_enter Try.func20, Try.ntmps20
  go_wp2_with fail
  generalize (w.alloc (.cells (opC ⟨8, on, n, heap, v, x, ca, cl, cc⟩) 44)).alloc (.cells #[vI 0, vI 0] 32) = w1 at *
  have hl1 : w.heap.size + 1 < w1.heap.size := heap_lt A2
  refine (setGlobal_any b g a n v w1 hM).mono ?_
  rintro e w2 ⟨rfl, hM2, hF2⟩
  obtain ⟨g2, hg2⟩ : ∃ g2, g2 = g := ⟨g, rfl⟩
  have hE2 : Ext w1.heap.size g g2 := by rw [hg2]; exact Ext.refl _ _
  rw [← hg2] at hM2
  clear hg2
  generalize setGlobalX a n v = r at *
  have B2 := (hF2.block _ (heap_lt A2) (fun e => e r0)).trans A2
  have r2 : g2.own (w.heap.size + 1) = 0 := (hE2 _ hl1).trans r0
  have HR : Hd _ := hM2.result r2 (((0, 0) : Val))
  have hFF : Hd (Fr (fun j => g.own j ≠ 0) w w2) := (hF.mono (fun _ _ h => h.elim)).trans hF2
  have hEE : Hd (Ext w.heap.size g g2) := fun k hk => hE2 k (by omega)
  have d0 : w2.cell? ⟨w.heap.size + 1, 0, none⟩ = some (vI 0) := by rw [cell_of B2]; rfl
  have d1 : w2.cell? ⟨w.heap.size + 1, 1, none⟩ = some (vI 0) := by rw [cell_of B2]; rfl
  have z0 : w2.frozen? ⟨w.heap.size + 1, 0, none⟩ = false := frozen_of B2 0
  have z1 : w2.frozen? ⟨w.heap.size + 1, 1, none⟩ = false := frozen_of B2 1
  have l2 : w.heap.size + 1 < w2.heap.size := heap_lt B2
  obtain ⟨q0, q1⟩ := res_cells B2 (vI (((0, 0) : Val)).1) (vI (((0, 0) : Val)).2)
  clear hM2 hF2 hE2 hM A1 A2 hF h
  go_wp2_with fail
  refine bodyPost_ret (by simp [results, Try.results20, go_sem, q0, q1]; try rfl) rfl ?_
  exact ⟨g2, rfl, HR.out.1, hFF.out.then HR.out.2 (fun j hj e => by omega), hEE.out⟩

set_option maxRecDepth 100000 in
set_option maxHeartbeats 1000000 in
theorem one_make (b : Nat) (g : Gh) (a : Abs) (o : OpR) (w : World) (h : Mem w b g a) {N : Nat} (hf : Fine N a) (hN : N ≤ 10000000000000) (hk : o.kind = 4) :
    Calls Try.prog 20 #[ptr b, opV o] w (OneEnds b g ((makeX a o.n o.heap).1, (makeX a o.n o.heap).2.1, (0, 0), (makeX a o.n o.heap).2.2) w) := by
  obtain ⟨kind, on, n, heap, v, x, ca, cl, cc⟩ := o
  simp only at hk
  subst hk
  obtain ⟨A1, A2, A3, hF⟩ := alloc2 w (.cells (opC ⟨4, on, n, heap, v, x, ca, cl, cc⟩) 44) (.cells #[vI 0, vI 0] 32)
  have hM := h.keep hF
  have r0 : g.own (w.heap.size + 1) = 0 := by
    by_cases h0 : g.own (w.heap.size + 1) = 0
    · exact h0
    · have := h.olt _ h0; omega
  go_enter Try.func20, Try.ntmps20
  go_wp2_with fail
  generalize (w.alloc (.cells (opC ⟨4, on, n, heap, v, x, ca, cl, cc⟩) 44)).alloc (.cells #[vI 0, vI 0] 32) = w1 at *
  have hl1 : w.heap.size + 1 < w1.heap.size := heap_lt A2
  refine (make_x b g a n heap w1 hM hf hN).mono ?_
  rintro e w2 ⟨g2, rfl, hM2, hF2, hE2⟩
  generalize makeX a n heap = r at *
  have B2 := (hF2.block _ (heap_lt A2) (fun e => e r0)).trans A2
  have r2 : g2.own (w.heap.size + 1) = 0 := (hE2 _ hl1).trans r0
  have HR : Hd _ := hM2.result r2 (((0, 0) : Val))
  have hFF : Hd (Fr (fun j => g.own j ≠ 0) w w2) := (hF.mono (fun _ _ h => h.elim)).trans hF2
  have hEE : Hd (Ext w.heap.size g g2) := fun k hk => hE2 k (by omega)
  have d0 : w2.cell? ⟨w.heap.size + 1, 0, none⟩ = some (vI 0) := by rw [cell_of B2]; rfl
  have d1 : w2.cell? ⟨w.heap.size + 1, 1, none⟩ = some (vI 0) := by rw [cell_of B2]; rfl
  have z0 : w2.frozen? ⟨w.heap.size + 1, 0, none⟩ = false := frozen_of B2 0
  have z1 : w2.frozen? ⟨w.heap.size + 1, 1, none⟩ = false := frozen_of B2 1
  have l2 : w.heap.size + 1 < w2.heap.size := heap_lt B2
  obtain ⟨q0, q1⟩ := res_cells B2 (vI (((0, 0) : Val)).1) (vI (((0, 0) : Val)).2)
  clear hM2 hF2 hE2 hM A1 A2 hF h
  go_wp2_with fail
  refine bodyPost_ret (by simp [results, Try.results20, go_sem, q0, q1]; try rfl) rfl ?_
  exact ⟨g2, rfl, HR.out.1, hFF.out.then HR.out.2 (fun j hj e => by omega), hEE.out⟩

end Go.Proofs.Ytmdlebolmhnhaaa
