import Derived.Test.YtmdlebolmhnhaaaA3
import Derived.Handy
namespace Go.Proofs.Ytmdlebolmhnhaaa
open Go.RowKit (wrap32 wrap64)
open Go.Maps (Keyed)
set_option linter.unusedVariables false
set_option linter.unusedSimpArgs false

/-- Load: what the document says. -/
def loadX (a : Abs) (v : Val) (f : Int) : Val × Int :=
  if rightB a.made v = false then ((0, 0), 1) else
  if v.1 ≠ 2 then ((0, 0), 31) else
  match a.cells v.2.toNat with
  | none => ((0, 0), 32)
  | some l => if 0 ≤ f ∧ f < l.length then (l.getD f.toNat (0, 0), 0) else ((0, 0), 33)

/-- Blocks that were laid: what stands in them. -/
theorem alloc2 (w : World) (o1 o2 : Obj) : ((w.alloc o1).alloc o2).heap[w.heap.size]? = some o1 ∧ ((w.alloc o1).alloc o2).heap[w.heap.size + 1]? = some o2 ∧ ((w.alloc o1).alloc o2).heap.size = w.heap.size + 2 ∧ Fr (fun _ => False) w ((w.alloc o1).alloc o2) := by
  refine ⟨?_, ?_, by simp, Fr.alloc (Fr.alloc (Fr.refl _ w) _) _⟩
  · rw [Go.RowKit.Below.heap_alloc _ _ _ (by simp)]; exact heap_alloc_last w o1
  · have := heap_alloc_last (w.alloc o1) o2
    rwa [show (w.alloc o1).heap.size = w.heap.size + 1 by simp] at this

/-- The two cells of a result. -/
theorem res_cells {w : World} {rb : Nat} {x0 x1 : Value} (h : w.heap[rb]? = some (.cells #[x0, x1] 32)) (p q : Value) :
    (w.setCell ⟨rb, 0, none⟩ p).cell? ⟨rb, 0, none⟩ = some p ∧ ((w.setCell ⟨rb, 0, none⟩ p).setCell ⟨rb, 1, none⟩ q).cell? ⟨rb, 1, none⟩ = some q := by
  have h1 := set_of h 0 p
  have h2 := set_of h1 1 q
  exact ⟨by rw [cell_of h1]; rfl, by rw [cell_of h2]; rfl⟩

set_option maxRecDepth 100000 in
set_option maxHeartbeats 1000000 in
theorem load_any (b : Nat) (g : Gh) (a : Abs) (v : Val) (f : Int) (w : World) (h : Mem w b g a) (hm : a.made ≤ 1000000000000000) :
    Calls Try.prog 16 #[.pointer (some ⟨b, 0, none⟩), vv v, vI f] w fun e w' => e = .returned (.tuple #[vv (loadX a v f).1, vI (loadX a v f).2]) ∧ Fr (fun _ => False) w w' := by
  obtain ⟨A1, A2, A3, hF⟩ := alloc2 w (.cells #[vI v.1, vI v.2] 32) (.cells #[vI 0, vI 0] 32)
  have hb := h.lt
  have hM := h.keep hF
  go_enter Try.func16, Try.ntmps16
  go_wp2_with fail
  generalize (w.alloc (.cells #[vI v.1, vI v.2] 32)).alloc (.cells #[vI 0, vI 0] 32) = w1 at *
  refine (right_any b a.made v w1 hM.facts.2.1 hM.lt).mono ?_
  rintro e w2 ⟨rfl, hw2⟩
  have hF12 : Fr (fun _ => False) w1 w2 := by rw [hw2]; exact Fr.alloc (Fr.refl _ w1) _
  clear hw2
  have B1 := (hF12.block _ (heap_lt A1) (fun h => h)).trans A1
  have B2 := (hF12.block _ (heap_lt A2) (fun h => h)).trans A2
  have hM2 := hM.keep hF12
  have hF2 := hF.trans hF12
  have hs2 := hF12.size
  clear hM A1 A2 hF hF12
  have d1 : w2.cell? ⟨w.heap.size, 0, none⟩ = some (vI v.1) := by rw [cell_of B1]; rfl
  have d2 : w2.cell? ⟨w.heap.size, 1, none⟩ = some (vI v.2) := by rw [cell_of B1]; rfl
  have d3 : w2.cell? ⟨w.heap.size + 1, 0, none⟩ = some (vI 0) := by rw [cell_of B2]; rfl
  have d4 : w2.cell? ⟨w.heap.size + 1, 1, none⟩ = some (vI 0) := by rw [cell_of B2]; rfl
  have z3 : w2.frozen? ⟨w.heap.size + 1, 0, none⟩ = false := frozen_of B2 0
  have z4 : w2.frozen? ⟨w.heap.size + 1, 1, none⟩ = false := frozen_of B2 1
  have hlt : w.heap.size + 1 < w2.heap.size := heap_lt B2
  cases hr : rightB a.made v with
  | false =>
    have HX : Hd (loadX a v f = ((0, 0), 1)) := by unfold Hd; simp [loadX, hr]
    go_wp2_with fail
    obtain ⟨q0, q1⟩ := res_cells B2 (vI 0) (vI 0)
    refine bodyPost_ret (by simp [results, Try.results16, go_sem, q0, q1]; try rfl) rfl ?_
    exact ⟨by rw [HX.out], Fr.setCell (Fr.setCell hF2 _ _ (Or.inr (by simp))) _ _ (Or.inr (by simp))⟩
  | true =>
    go_wp2_with fail
    refine (follow_any b g a v f w2 hM2 hr hm).mono ?_
    rintro e w3 ⟨rfl, hF23⟩
    have C2 := (hF23.block _ (heap_lt B2) (fun h => h)).trans B2
    have hM3 := hM2.keep hF23
    have hF3 := hF2.trans hF23
    have hs3 := hF23.size
    have e3 : w3.cell? ⟨w.heap.size + 1, 0, none⟩ = some (vI 0) := by rw [cell_of C2]; rfl
    have e4 : w3.cell? ⟨w.heap.size + 1, 1, none⟩ = some (vI 0) := by rw [cell_of C2]; rfl
    have y3 : w3.frozen? ⟨w.heap.size + 1, 0, none⟩ = false := frozen_of C2 0
    have y4 : w3.frozen? ⟨w.heap.size + 1, 1, none⟩ = false := frozen_of C2 1
    have hlt3 : w.heap.size + 1 < w3.heap.size := heap_lt C2
    clear d1 d2 d3 d4 z3 z4 hlt hF23 hF2 hM2 B1 B2 hs2
    by_cases h2 : v.1 = 2
    · cases hc : a.cells v.2.toNat with
      | none =>
        have HX : Hd (loadX a v f = ((0, 0), 32)) := by unfold Hd; simp [loadX, hr, h2, hc]
        have hY : followX g a v f = (.slice none 0 0, 32) := by simp [followX, h2, hc]
        rw [hY]
        clear hY
        go_wp2_with fail
        obtain ⟨q0, q1⟩ := res_cells C2 (vI 0) (vI 0)
        refine bodyPost_ret (by simp [results, Try.results16, go_sem, q0, q1]; try rfl) rfl ?_
        exact ⟨by rw [HX.out], Fr.setCell (Fr.setCell hF3 _ _ (Or.inr (by simp))) _ _ (Or.inr (by simp))⟩
      | some l =>
        by_cases hf : 0 ≤ f ∧ f < l.length
        · obtain ⟨i, rfl⟩ := Int.eq_ofNat_of_zero_le hf.1
          have hi : i < l.length := by omega
          have HX : Hd (loadX a v i = (l[i], 0)) := by unfold Hd; simp [loadX, hr, h2, hc, hi]
          have hY : followX g a v i = (.slice (some ⟨g.blk v.2.toNat, 0, none⟩) l.length l.length, 0) := by simp [followX, h2, hc, hi]
          rw [hY]
          clear hY
          obtain ⟨k1, k2, k3, k4, k5⟩ := hM3.cell _ _ hc
          have m1 : w3.cell? ⟨g.blk v.2.toNat, i * 2, none⟩ = some (vI l[i].1) := by
            rw [cell_of k1, Nat.mul_comm]; simpa using flat_fst l i hi
          have m2 : w3.cell? ⟨g.blk v.2.toNat, i * 2 + 1, none⟩ = some (vI l[i].2) := by
            rw [cell_of k1, Nat.mul_comm]; simpa using flat_snd l i hi
          have hi0 : (0 : Int) ≤ i := by omega
          have hi1 : (i : Int) < l.length := by omega
          generalize l[i] = x at *
          go_wp2_with fail
          obtain ⟨q0, q1⟩ := res_cells C2 (vI x.1) (vI x.2)
          refine bodyPost_ret (by simp [results, Try.results16, go_sem, q0, q1]; try rfl) rfl ?_
          exact ⟨by rw [HX.out], Fr.setCell (Fr.setCell hF3 _ _ (Or.inr (by simp))) _ _ (Or.inr (by simp))⟩
        · have HX : Hd (loadX a v f = ((0, 0), 33)) := by unfold Hd; simp [loadX, hr, h2, hc, hf]
          have hY : followX g a v f = (.slice none 0 0, 33) := by simp [followX, h2, hc, hf]
          rw [hY]
          clear hY
          go_wp2_with fail
          obtain ⟨q0, q1⟩ := res_cells C2 (vI 0) (vI 0)
          refine bodyPost_ret (by simp [results, Try.results16, go_sem, q0, q1]; try rfl) rfl ?_
          exact ⟨by rw [HX.out], Fr.setCell (Fr.setCell hF3 _ _ (Or.inr (by simp))) _ _ (Or.inr (by simp))⟩
    · have HX : Hd (loadX a v f = ((0, 0), 31)) := by unfold Hd; simp [loadX, hr, h2]
      have hY : followX g a v f = (.slice none 0 0, 31) := by simp [followX, h2]
      rw [hY]
      clear hY
      go_wp2_with fail
      obtain ⟨q0, q1⟩ := res_cells C2 (vI 0) (vI 0)
      refine bodyPost_ret (by simp [results, Try.results16, go_sem, q0, q1]; try rfl) rfl ?_
      exact ⟨by rw [HX.out], Fr.setCell (Fr.setCell hF3 _ _ (Or.inr (by simp))) _ _ (Or.inr (by simp))⟩
end Go.Proofs.Ytmdlebolmhnhaaa
