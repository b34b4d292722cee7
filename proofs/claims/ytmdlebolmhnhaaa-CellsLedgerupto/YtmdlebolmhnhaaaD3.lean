import Derived.Test.YtmdlebolmhnhaaaD2
namespace Go.Proofs.Ytmdlebolmhnhaaa
open Go.RowKit (wrap32 wrap64)
open Go.Maps (Keyed)
set_option linter.unusedVariables false
set_option linter.unusedSimpArgs false

set_option maxRecDepth 100000 in
set_option maxHeartbeats 1000000 in
theorem one_load (b : Nat) (g : Gh) (a : Abs) (o : OpR) (w : World) (h : Mem w b g a) {N : Nat} (hf : Fine N a) (hN : N ≤ 10000000000000) (hk : o.kind = 5) :
    Calls Try.prog 20 #[ptr b, opV o] w (OneEnds b g (a, 0, (loadX a o.v o.n).1, (loadX a o.v o.n).2) w) := by
  obtain ⟨kind, on, n, heap, v, x, ca, cl, cc⟩ := o
  simp only at hk
  subst hk
  obtain ⟨A1, A2, A3, hF⟩ := alloc2 w (.cells (opC ⟨5, on, n, heap, v, x, ca, cl, cc⟩) 44) (.cells #[vI 0, vI 0] 32)
  have hM := h.keep hF
  have r0 : g.own (w.heap.size + 1) = 0 := by
    by_cases h0 : g.own (w.heap.size + 1) = 0
    · exact h0
    · have := h.olt _ h0; omega
  go_enter Try.func20, Try.ntmps20
  go_wp2_with fail
  generalize (w.alloc (.cells (opC ⟨5, on, n, heap, v, x, ca, cl, cc⟩) 44)).alloc (.cells #[vI 0, vI 0] 32) = w1 at *
  have hl1 : w.heap.size + 1 < w1.heap.size := heap_lt A2
  refine (load_any b g a v n w1 hM (by have := hf.made; omega)).mono ?_
  rintro e w2 ⟨rfl, hF2⟩
  generalize loadX a v n = r at *
  obtain ⟨y, er⟩ := r
  have hM2 := hM.keep hF2
  have B2 := (hF2.block _ (heap_lt A2) (fun e => e)).trans A2
  have hFF : Fr (fun _ => False) w w2 := hF.trans hF2
  have l2 : w.heap.size + 1 < w2.heap.size := heap_lt B2
  clear hF2 hM A1 A2 hF
  go_wp2_with fail
  obtain ⟨vb, hvb⟩ : ∃ vb, vb = w2.heap.size := ⟨_, rfl⟩
  have V3 := heap_alloc_last w2 (.cells #[vI y.1, vI y.2] 32)
  have hF3 : Fr (fun _ => False) w2 (w2.alloc (.cells #[vI y.1, vI y.2] 32)) := Fr.alloc (Fr.refl _ w2) _
  rw [← hvb] at V3 ⊢
  generalize w2.alloc (.cells #[vI y.1, vI y.2] 32) = w3 at *
  have hM3 := (hM2.keep hF3).drew
  have B3 := (hF3.block _ (heap_lt B2) (fun e => e)).trans B2
  have hF4 := hFF.trans hF3
  have HR : Hd _ := hM3.result r0 y
  have HF4 : Hd _ := hF4
  have d0 : w3.cell? ⟨w.heap.size + 1, 0, none⟩ = some (vI 0) := by rw [cell_of B3]; rfl
  have d1 : w3.cell? ⟨w.heap.size + 1, 1, none⟩ = some (vI 0) := by rw [cell_of B3]; rfl
  have z0 : w3.frozen? ⟨w.heap.size + 1, 0, none⟩ = false := frozen_of B3 0
  have z1 : w3.frozen? ⟨w.heap.size + 1, 1, none⟩ = false := frozen_of B3 1
  have v0 : w3.cell? ⟨vb, 0, none⟩ = some (vI y.1) := by rw [cell_of V3]; rfl
  have v1 : w3.cell? ⟨vb, 1, none⟩ = some (vI y.2) := by rw [cell_of V3]; rfl
  have l3 : w.heap.size + 1 < w3.heap.size := heap_lt B3
  obtain ⟨q0, q1⟩ := res_cells (w := w3) B3 (vI y.1) (vI y.2)
  have H0 : Hd _ := r0
  clear hM2 hF3 hM3 hF4 hFF h hvb B2 B3 V3 r0
  go_region
  all_goals
    go_wp2_with fail
    refine bodyPost_ret (by simp [results, Try.results20, go_sem, q0, q1]; try rfl) rfl ?_
    exact ⟨g, rfl, HR.out.1, (HF4.out.drew.mono (fun _ _ h => h.elim)).then HR.out.2 (fun j hj e => by omega), Ext.refl _ _⟩

set_option maxRecDepth 100000 in
set_option maxHeartbeats 1000000 in
theorem one_global (b : Nat) (g : Gh) (a : Abs) (o : OpR) (w : World) (h : Mem w b g a) {N : Nat} (hf : Fine N a) (hN : N ≤ 10000000000000) (hk : o.kind = 7) :
    Calls Try.prog 20 #[ptr b, opV o] w (OneEnds b g (a, 0, (globalX a o.n).1, (globalX a o.n).2) w) := by
  obtain ⟨kind, on, n, heap, v, x, ca, cl, cc⟩ := o
  simp only at hk
  subst hk
  obtain ⟨A1, A2, A3, hF⟩ := alloc2 w (.cells (opC ⟨7, on, n, heap, v, x, ca, cl, cc⟩) 44) (.cells #[vI 0, vI 0] 32)
  have hM := h.keep hF
  have r0 : g.own (w.heap.size + 1) = 0 := by
    by_cases h0 : g.own (w.heap.size + 1) = 0
    · exact h0
    · have := h.olt _ h0; omega
  go_enter Try.func20, Try.ntmps20
  go_wp2_with fail
  generalize (w.alloc (.cells (opC ⟨7, on, n, heap, v, x, ca, cl, cc⟩) 44)).alloc (.cells #[vI 0, vI 0] 32) = w1 at *
  have hl1 : w.heap.size + 1 < w1.heap.size := heap_lt A2
  refine (global_any b g a n w1 hM).mono ?_
  rintro e w2 ⟨rfl, hF2⟩
  generalize globalX a n = r at *
  obtain ⟨y, er⟩ := r
  have hM2 := hM.keep hF2
  have B2 := (hF2.block _ (heap_lt A2) (fun e => e)).trans A2
  have hFF : Fr (fun _ => False) w w2 := hF.trans hF2
  have l2 : w.heap.size + 1 < w2.heap.size := heap_lt B2
  clear hF2 hM A1 A2 hF
  go_wp2_with fail
  obtain ⟨vb, hvb⟩ : ∃ vb, vb = w2.heap.size := ⟨_, rfl⟩
  have V3 := heap_alloc_last w2 (.cells #[vI y.1, vI y.2] 32)
  have hF3 : Fr (fun _ => False) w2 (w2.alloc (.cells #[vI y.1, vI y.2] 32)) := Fr.alloc (Fr.refl _ w2) _
  rw [← hvb] at V3 ⊢
  generalize w2.alloc (.cells #[vI y.1, vI y.2] 32) = w3 at *
  have hM3 := (hM2.keep hF3).drew
  have B3 := (hF3.block _ (heap_lt B2) (fun e => e)).trans B2
  have hF4 := hFF.trans hF3
  have HR : Hd _ := hM3.result r0 y
  have HF4 : Hd _ := hF4
  have d0 : w3.cell? ⟨w.heap.size + 1, 0, none⟩ = some (vI 0) := by rw [cell_of B3]; rfl
  have d1 : w3.cell? ⟨w.heap.size + 1, 1, none⟩ = some (vI 0) := by rw [cell_of B3]; rfl
  have z0 : w3.frozen? ⟨w.heap.size + 1, 0, none⟩ = false := frozen_of B3 0
  have z1 : w3.frozen? ⟨w.heap.size + 1, 1, none⟩ = false := frozen_of B3 1
  have v0 : w3.cell? ⟨vb, 0, none⟩ = some (vI y.1) := by rw [cell_of V3]; rfl
  have v1 : w3.cell? ⟨vb, 1, none⟩ = some (vI y.2) := by rw [cell_of V3]; rfl
  have l3 : w.heap.size + 1 < w3.heap.size := heap_lt B3
  obtain ⟨q0, q1⟩ := res_cells (w := w3) B3 (vI y.1) (vI y.2)
  have H0 : Hd _ := r0
  clear hM2 hF3 hM3 hF4 hFF h hvb B2 B3 V3 r0
  go_region
  all_goals
    go_wp2_with fail
    refine bodyPost_ret (by simp [results, Try.results20, go_sem, q0, q1]; try rfl) rfl ?_
    exact ⟨g, rfl, HR.out.1, (HF4.out.drew.mono (fun _ _ h => h.elim)).then HR.out.2 (fun j hj e => by omega), Ext.refl _ _⟩

set_option maxRecDepth 100000 in
set_option maxHeartbeats 1000000 in
theorem one_none (b : Nat) (g : Gh) (a : Abs) (o : OpR) (w : World) (h : Mem w b g a) (h2 : o.kind ≠ 2) (h3 : o.kind ≠ 3) (h4 : o.kind ≠ 4) (h5 : o.kind ≠ 5) (h6 : o.kind ≠ 6) (h7 : o.kind ≠ 7) (h8 : o.kind ≠ 8) (h9 : o.kind ≠ 9) (h10 : o.kind ≠ 10) :
    Calls Try.prog 20 #[ptr b, opV o] w (OneEnds b g (a, 0, (0, 0), 0) w) := by
  obtain ⟨kind, on, n, heap, v, x, ca, cl, cc⟩ := o
  simp only at h2 h3 h4 h5 h6 h7 h8 h9 h10
  obtain ⟨A1, A2, A3, hF⟩ := alloc2 w (.cells (opC ⟨kind, on, n, heap, v, x, ca, cl, cc⟩) 44) (.cells #[vI 0, vI 0] 32)
  have hM := h.keep hF
  have r0 : g.own (w.heap.size + 1) = 0 := by
    by_cases h0 : g.own (w.heap.size + 1) = 0
    · exact h0
    · have := h.olt _ h0; omega
  have HM : Hd _ := hM
  have HF : Hd _ := hF
  have q2 := eqb_false h2
  have q3 := eqb_false h3
  have q4 := eqb_false h4
  have q5 := eqb_false h5
  have q6 := eqb_false h6
  have q7 := eqb_false h7
  have q8 := eqb_false h8
  have q9 := eqb_false h9
  have q10 := eqb_false h10
  clear hF hM h
  go_enter Try.func20, Try.ntmps20
  go_wp2_with fail
  generalize (w.alloc (.cells (opC ⟨kind, on, n, heap, v, x, ca, cl, cc⟩) 44)).alloc (.cells #[vI 0, vI 0] 32) = w1 at *
  have e0 : w1.cell? ⟨w.heap.size + 1, 0, none⟩ = some (vI 0) := by rw [cell_of A2]; rfl
  have e1 : w1.cell? ⟨w.heap.size + 1, 1, none⟩ = some (vI 0) := by rw [cell_of A2]; rfl
  refine bodyPost_ret (by simp [results, Try.results20, go_sem, e0, e1]; try rfl) rfl ?_
  exact ⟨g, rfl, HM.out, HF.out.mono (fun _ _ h => h.elim), Ext.refl _ _⟩

end Go.Proofs.Ytmdlebolmhnhaaa
