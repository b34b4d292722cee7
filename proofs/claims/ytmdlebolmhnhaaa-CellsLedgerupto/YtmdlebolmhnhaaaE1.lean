import Derived.Test.YtmdlebolmhnhaaaV8
namespace Go.Proofs.Ytmdlebolmhnhaaa
open Go.RowKit (wrap32 wrap64)
open Go.Maps (Keyed)
set_option linter.unusedVariables false
set_option linter.unusedSimpArgs false

/-- A list of ints stays where nothing that it lies in is written. -/
theorem IntsAt.fr {w w' : World} {M : Nat → Prop} {sv : Value} {zs : List Int} (h : IntsAt w.heap.size w sv zs) (hF : Fr M w w') (hno : ∀ j, sv.ownBlock = some j → ¬ M j) : IntsAt w'.heap.size w' sv zs := by
  rcases h with hh | ⟨pb, po, pc, e, hlt, hc⟩
  · exact Or.inl hh
  · refine Or.inr ⟨pb, po, pc, e, Nat.lt_of_lt_of_le hlt hF.size, fun j hj => (hF.cell hlt (hno pb (by rw [e]; rfl))).trans (hc j hj)⟩

set_option maxRecDepth 100000 in
set_option maxHeartbeats 1000000 in
theorem one_drop (b : Nat) (g : Gh) (a : Abs) (o : OpR) (zs : List Int) (w : World) (h : Mem w b g a) (hI : IntsAt w.heap.size w o.cells zs) (hl : o.cl = zs.length) (hso : zs ≠ [] → ∀ j, o.cells.ownBlock = some j → g.own j = 0) (hz : zs.length ≤ 17592186043904) {N : Nat} (hf : Fine N a) (hN : N ≤ 10000000000000) (hk : o.kind = 10) :
    Calls Try.prog 20 #[ptr b, opV o] w (OneEnds b g ((dropX a zs).1, 0, (0, 0), (dropX a zs).2) w) := by
  obtain ⟨kind, on, n, heap, v, x, ca, cl, cc⟩ := o
  simp only at hk hl
  subst hk
  subst hl
  obtain ⟨A1, A2, A3, hF⟩ := alloc2 w (.cells (opC ⟨10, on, n, heap, v, x, ca, zs.length, cc⟩) 44) (.cells #[vI 0, vI 0] 32)
  have hM := h.keep hF
  have r0 : g.own (w.heap.size + 1) = 0 := by
    by_cases h0 : g.own (w.heap.size + 1) = 0
    · exact h0
    · have := h.olt _ h0; omega
  go_enter Try.func20, Try.ntmps20
  go_wp2_with fail
  generalize (w.alloc (.cells (opC ⟨10, on, n, heap, v, x, ca, zs.length, cc⟩) 44)).alloc (.cells #[vI 0, vI 0] 32) = w1 at *
  have hl1 : w.heap.size + 1 < w1.heap.size := heap_lt A2
  refine (drop_any b g a ca cc zs w1 hM (IntsAt.fr hI hF (fun _ _ h => h)) hso hz hf hN).mono ?_
  rintro e w2 ⟨g2, rfl, hM2, hF2, hE2⟩
  generalize dropX a zs = r at *
  have B2 := (hF2.block _ (heap_lt A2) (fun e => e r0)).trans A2
  have r2 : g2.own (w.heap.size + 1) = 0 := (hE2 _ hl1).trans r0
  have HR : Hd _ := hM2.result r2 (((0, 0) : Val))
  have hFF : Hd (Fr (fun j => g.own j ≠ 0) w w2) := (hF.mono (fun _ _ h => h.elim)).trans hF2
  have hEE : Hd (Ext w.heap.size g g2) := fun k hk => hE2 k (by omega)
  have d0 : w2.cell? ⟨w.heap.size + 1, 0, none⟩ = some (vI 0) := by rw [cell_of B2]; rfl
  have d1 : w2.cell? ⟨w.heap.size + 1, 1, none⟩ = some (vI 0) := by rw [cell_of B2]; rfl
  have z0 : w2.frozen? ⟨w.heap.size + 1, 0, none⟩ = false := frozen_of B2 0
  have z1 : w2.frozen? ⟨w.heap.size + 1, 1, none⟩ = false := frozen_of B2 1
  have l2 : w.heap.size + 1 < w2.heap.size := heap_lt B2
  obtain ⟨q0, q1⟩ := res_cells B2 (vI (((0, 0) : Val)).1) (vI (((0, 0) : Val)).2)
  clear hM2 hF2 hE2 hM A1 A2 hF h
  go_wp2_with fail
  refine bodyPost_ret (by simp [results, Try.results20, go_sem, q0, q1]; try rfl) rfl ?_
  exact ⟨g2, rfl, HR.out.1, hFF.out.then HR.out.2 (fun j hj e => by omega), hEE.out⟩

end Go.Proofs.Ytmdlebolmhnhaaa
