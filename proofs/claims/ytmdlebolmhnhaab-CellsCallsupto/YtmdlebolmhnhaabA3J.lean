import Derived.Test.YtmdlebolmhnhaabA1J
import Derived.Handy
namespace Go.Proofs.Ytmdlebolmhnhaab
open Go.RowKit (wrap32 wrap64)
open Go.Maps (Keyed)
set_option linter.unusedVariables false
set_option linter.unusedSimpArgs false

theorem under61 : Try.prog.underlying 58 = some (.map 3 53) := by kernel_rfl
theorem under3 : Try.prog.underlying 3 = some (.int .i64) := by kernel_rfl
theorem keyed3 : Keyed Try.prog 3 := Maps.int_keyed under3
theorem zero22 (w : World) : (zeroValue 53).run Try.prog w = .ok (.slice none 0 0) w := by kernel_rfl
theorem wf_nat (n : Nat) (h : n ≤ 9000000000000000000) : (Lit.int .i64 n).wf = true := WalkArith.wf_i64 (by omega)

/-- What the map tells of a number. -/
theorem Mem.look {w : World} {b : Nat} {g : Gh} {a : Abs} (h : Mem w b g a) (i : Nat) (hi : i ≤ 9000000000000000000) :
    (Instr.lookup 58 (.map (some g.tb)) (vI i) true).run Try.prog w = .ok (.tuple #[match a.cells i with | some l => .slice (some ⟨g.blk i, 0, none⟩) l.length l.length | none => .slice none 0 0, .bool (a.cells i).isSome]) w := by
  obtain ⟨v, ps, hrun, hv⟩ := h.map.look_ok keyed3 under61 (zero22 w) (zd := .nil) (zp := []) rfl (Maps.keyOf_int_mk under3 (wf_nat i hi))
  rw [hrun, h.has i]
  cases hc : a.cells i with
  | none =>
    have hn : Maps.has g.D (.int .i64 i) = false := by rw [h.has i, hc]; rfl
    rw [Maps.atKey_of_not_has hn] at hv
    rw [Rc_nil hv]
  | some l =>
    rw [h.atk i l hc] at hv
    rw [Rc_inv hv]

/-- follow: the slice of a cell's fields, or an error. -/
def followX (g : Gh) (a : Abs) (v : Val) (f : Int) : Value × Int :=
  if v.1 ≠ 2 then (.slice none 0 0, 31) else
  match a.cells v.2.toNat with
  | none => (.slice none 0 0, 32)
  | some l => if 0 ≤ f ∧ f < l.length then (.slice (some ⟨g.blk v.2.toNat, 0, none⟩) l.length l.length, 0) else (.slice none 0 0, 33)

set_option maxRecDepth 100000 in
set_option maxHeartbeats 1000000 in
theorem follow_any (b : Nat) (g : Gh) (a : Abs) (v : Val) (f : Int) (w : World) (h : Mem w b g a) (hr : rightB a.made v = true) (hm : a.made ≤ 1000000000000000) :
    Calls Try.prog 26 #[.pointer (some ⟨b, 0, none⟩), vv v, vI f] w fun e w' => e = .returned (.tuple #[(followX g a v f).1, vI (followX g a v f).2]) ∧ Fr (fun _ => False) w w' := by
  obtain ⟨k, n⟩ := v
  by_cases h2 : k = 2
  · subst h2
    simp only [rightB] at hr
    obtain ⟨hn1, hn2⟩ : 1 ≤ n ∧ n ≤ a.made := by simpa using hr
    obtain ⟨i, rfl⟩ := Int.eq_ofNat_of_zero_le (show 0 ≤ n by omega)
    have hA := h.alloc (.cells #[vI 2, vI i] 28)
    have hL := hA.drew.look i (by omega)
    have f0 := hA.facts.2.2.1
    have hb := h.lt
    have c0 : (w.alloc (.cells #[vI 2, vI i] 28)).cell? ⟨w.heap.size, 0, none⟩ = some (vI 2) := by rw [World.cell?_alloc_new]; rfl
    have c1 : (w.alloc (.cells #[vI 2, vI i] 28)).cell? ⟨w.heap.size, 1, none⟩ = some (vI i) := by rw [World.cell?_alloc_new]; rfl
    have hF : Fr (fun _ => False) w (w.alloc (.cells #[vI 2, vI i] 28)) := Fr.alloc (Fr.refl _ w) _
    have hX : followX g a (2, (i : Int)) f = match a.cells i with
      | none => (.slice none 0 0, 32)
      | some l => if 0 ≤ f ∧ f < l.length then (.slice (some ⟨g.blk i, 0, none⟩) l.length l.length, 0) else (.slice none 0 0, 33) := by
      simp [followX]
    rw [hX]
    cases hc : a.cells i with
    | none =>
      rw [hc] at hL
      clear hc hr hX
      go_enter Try.func26, Try.ntmps26
      go_wp2
      generalize w.alloc (.cells #[vI 2, vI i] 28) = w1 at *
      refine wp_region_still_tail 11 mixed (by kernel_rfl) ?_
      simp only [List.take_succ_cons, List.take_zero, List.drop_succ_cons, List.drop_zero]
      repeat still_step
      refine wpStill_nil ?_
      go_wp2_with fail
      go_ret2
      exact ⟨rfl, hF.drew⟩
    | some l =>
      rw [hc] at hL
      have hl : l.length ≤ 8 := (h.cell i l hc).2.2.2.2
      clear hc hr hX
      by_cases hf0 : 0 ≤ f
      · have d0 : decide (f < 0) = false := by simpa using hf0
        by_cases hf1 : f < l.length
        · have d1 : decide ((l.length : Int) ≤ f) = false := by simpa using hf1
          go_enter Try.func26, Try.ntmps26
          go_wp2
          generalize w.alloc (.cells #[vI 2, vI i] 28) = w1 at *
          refine wp_region_still_tail 11 mixed (by kernel_rfl) ?_
          simp only [List.take_succ_cons, List.take_zero, List.drop_succ_cons, List.drop_zero]
          repeat still_step
          refine wpStill_nil ?_
          go_wp2_with fail
          go_ret2
          exact ⟨by simp [hf0, hf1], hF.drew⟩
        · have d1 : decide ((l.length : Int) ≤ f) = true := by simp; omega
          go_enter Try.func26, Try.ntmps26
          go_wp2
          generalize w.alloc (.cells #[vI 2, vI i] 28) = w1 at *
          refine wp_region_still_tail 11 mixed (by kernel_rfl) ?_
          simp only [List.take_succ_cons, List.take_zero, List.drop_succ_cons, List.drop_zero]
          repeat still_step
          refine wpStill_nil ?_
          go_wp2_with fail
          go_ret2
          exact ⟨by simp [hf1], hF.drew⟩
      · have d0 : decide (f < 0) = true := by simp; omega
        go_enter Try.func26, Try.ntmps26
        go_wp2
        generalize w.alloc (.cells #[vI 2, vI i] 28) = w1 at *
        refine wp_region_still_tail 11 mixed (by kernel_rfl) ?_
        simp only [List.take_succ_cons, List.take_zero, List.drop_succ_cons, List.drop_zero]
        repeat still_step
        refine wpStill_nil ?_
        go_wp2_with fail
        go_ret2
        exact ⟨by simp [hf0], hF.drew⟩
  · have b2 := eqb_false h2
    go_enter Try.func26, Try.ntmps26
    go_wp2
    go_ret2
    exact ⟨by simp [followX, h2], Fr.alloc (Fr.refl _ w) _⟩

end Go.Proofs.Ytmdlebolmhnhaab

namespace Go.Proofs.Ytmdlebolmhnhaab
open Go.RowKit (wrap32 wrap64)
open Go.Maps (Keyed)
set_option linter.unusedVariables false
set_option linter.unusedSimpArgs false

/-- Load: what the document says. -/
def loadX (a : Abs) (v : Val) (f : Int) : Val × Int :=
  if rightB a.made v = false then ((0, 0), 1) else
  if v.1 ≠ 2 then ((0, 0), 31) else
  match a.cells v.2.toNat with
  | none => ((0, 0), 32)
  | some l => if 0 ≤ f ∧ f < l.length then (l.getD f.toNat (0, 0), 0) else ((0, 0), 33)

/-- Blocks that were laid: what stands in them. -/
theorem alloc2 (w : World) (o1 o2 : Obj) : ((w.alloc o1).alloc o2).heap[w.heap.size]? = some o1 ∧ ((w.alloc o1).alloc o2).heap[w.heap.size + 1]? = some o2 ∧ ((w.alloc o1).alloc o2).heap.size = w.heap.size + 2 ∧ Fr (fun _ => False) w ((w.alloc o1).alloc o2) := by
  refine ⟨?_, ?_, by simp, Fr.alloc (Fr.alloc (Fr.refl _ w) _) _⟩
  · rw [Go.RowKit.Below.heap_alloc _ _ _ (by simp)]; exact heap_alloc_last w o1
  · have := heap_alloc_last (w.alloc o1) o2
    rwa [show (w.alloc o1).heap.size = w.heap.size + 1 by simp] at this

/-- The two cells of a result. -/
theorem res_cells {w : World} {rb : Nat} {x0 x1 : Value} (h : w.heap[rb]? = some (.cells #[x0, x1] 28)) (p q : Value) :
    (w.setCell ⟨rb, 0, none⟩ p).cell? ⟨rb, 0, none⟩ = some p ∧ ((w.setCell ⟨rb, 0, none⟩ p).setCell ⟨rb, 1, none⟩ q).cell? ⟨rb, 1, none⟩ = some q := by
  have h1 := set_of h 0 p
  have h2 := set_of h1 1 q
  exact ⟨by rw [cell_of h1]; rfl, by rw [cell_of h2]; rfl⟩

set_option maxRecDepth 100000 in
set_option maxHeartbeats 1000000 in
theorem load_any (b : Nat) (g : Gh) (a : Abs) (v : Val) (f : Int) (w : World) (h : Mem w b g a) (hm : a.made ≤ 1000000000000000) :
    Calls Try.prog 12 #[.pointer (some ⟨b, 0, none⟩), vv v, vI f] w fun e w' => e = .returned (.tuple #[vv (loadX a v f).1, vI (loadX a v f).2]) ∧ Fr (fun _ => False) w w' := by
  obtain ⟨A1, A2, A3, hF⟩ := alloc2 w (.cells #[vI v.1, vI v.2] 28) (.cells #[vI 0, vI 0] 28)
  have hb := h.lt
  have hM := h.keep hF
  go_enter Try.func12, Try.ntmps12
  go_wp2_with fail
  generalize (w.alloc (.cells #[vI v.1, vI v.2] 28)).alloc (.cells #[vI 0, vI 0] 28) = w1 at *
  refine (right_any b a.made v w1 hM.facts.2.1 hM.lt).mono ?_
  rintro e w2 ⟨rfl, hw2⟩
  have hF12 : Fr (fun _ => False) w1 w2 := by rw [hw2]; exact Fr.alloc (Fr.refl _ w1) _
  clear hw2
  have B1 := (hF12.block _ (heap_lt A1) (fun h => h)).trans A1
  have B2 := (hF12.block _ (heap_lt A2) (fun h => h)).trans A2
  have hM2 := hM.keep hF12
  have hF2 := hF.trans hF12
  have hs2 := hF12.size
  clear hM A1 A2 hF hF12
  have d1 : w2.cell? ⟨w.heap.size, 0, none⟩ = some (vI v.1) := by rw [cell_of B1]; rfl
  have d2 : w2.cell? ⟨w.heap.size, 1, none⟩ = some (vI v.2) := by rw [cell_of B1]; rfl
  have d3 : w2.cell? ⟨w.heap.size + 1, 0, none⟩ = some (vI 0) := by rw [cell_of B2]; rfl
  have d4 : w2.cell? ⟨w.heap.size + 1, 1, none⟩ = some (vI 0) := by rw [cell_of B2]; rfl
  have z3 : w2.frozen? ⟨w.heap.size + 1, 0, none⟩ = false := frozen_of B2 0
  have z4 : w2.frozen? ⟨w.heap.size + 1, 1, none⟩ = false := frozen_of B2 1
  have hlt : w.heap.size + 1 < w2.heap.size := heap_lt B2
  cases hr : rightB a.made v with
  | false =>
    have HX : Hd (loadX a v f = ((0, 0), 1)) := by unfold Hd; simp [loadX, hr]
    go_wp2_with fail
    obtain ⟨q0, q1⟩ := res_cells B2 (vI 0) (vI 0)
    refine bodyPost_ret (by simp [results, Try.results12, go_sem, q0, q1]; try rfl) rfl ?_
    exact ⟨by rw [HX.out], Fr.setCell (Fr.setCell hF2 _ _ (Or.inr (by simp))) _ _ (Or.inr (by simp))⟩
  | true =>
    go_wp2_with fail
    refine (follow_any b g a v f w2 hM2 hr hm).mono ?_
    rintro e w3 ⟨rfl, hF23⟩
    have C2 := (hF23.block _ (heap_lt B2) (fun h => h)).trans B2
    have hM3 := hM2.keep hF23
    have hF3 := hF2.trans hF23
    have hs3 := hF23.size
    have e3 : w3.cell? ⟨w.heap.size + 1, 0, none⟩ = some (vI 0) := by rw [cell_of C2]; rfl
    have e4 : w3.cell? ⟨w.heap.size + 1, 1, none⟩ = some (vI 0) := by rw [cell_of C2]; rfl
    have y3 : w3.frozen? ⟨w.heap.size + 1, 0, none⟩ = false := frozen_of C2 0
    have y4 : w3.frozen? ⟨w.heap.size + 1, 1, none⟩ = false := frozen_of C2 1
    have hlt3 : w.heap.size + 1 < w3.heap.size := heap_lt C2
    clear d1 d2 d3 d4 z3 z4 hlt hF23 hF2 hM2 B1 B2 hs2
    by_cases h2 : v.1 = 2
    · cases hc : a.cells v.2.toNat with
      | none =>
        have HX : Hd (loadX a v f = ((0, 0), 32)) := by unfold Hd; simp [loadX, hr, h2, hc]
        have hY : followX g a v f = (.slice none 0 0, 32) := by simp [followX, h2, hc]
        rw [hY]
        clear hY
        go_wp2_with fail
        obtain ⟨q0, q1⟩ := res_cells C2 (vI 0) (vI 0)
        refine bodyPost_ret (by simp [results, Try.results12, go_sem, q0, q1]; try rfl) rfl ?_
        exact ⟨by rw [HX.out], Fr.setCell (Fr.setCell hF3 _ _ (Or.inr (by simp))) _ _ (Or.inr (by simp))⟩
      | some l =>
        by_cases hf : 0 ≤ f ∧ f < l.length
        · obtain ⟨i, rfl⟩ := Int.eq_ofNat_of_zero_le hf.1
          have hi : i < l.length := by omega
          have HX : Hd (loadX a v i = (l[i], 0)) := by unfold Hd; simp [loadX, hr, h2, hc, hi]
          have hY : followX g a v i = (.slice (some ⟨g.blk v.2.toNat, 0, none⟩) l.length l.length, 0) := by simp [followX, h2, hc, hi]
          rw [hY]
          clear hY
          obtain ⟨k1, k2, k3, k4, k5⟩ := hM3.cell _ _ hc
          have m1 : w3.cell? ⟨g.blk v.2.toNat, i * 2, none⟩ = some (vI l[i].1) := by
            rw [cell_of k1, Nat.mul_comm]; simpa using flat_fst l i hi
          have m2 : w3.cell? ⟨g.blk v.2.toNat, i * 2 + 1, none⟩ = some (vI l[i].2) := by
            rw [cell_of k1, Nat.mul_comm]; simpa using flat_snd l i hi
          have hi0 : (0 : Int) ≤ i := by omega
          have hi1 : (i : Int) < l.length := by omega
          generalize l[i] = x at *
          go_wp2_with fail
          obtain ⟨q0, q1⟩ := res_cells C2 (vI x.1) (vI x.2)
          refine bodyPost_ret (by simp [results, Try.results12, go_sem, q0, q1]; try rfl) rfl ?_
          exact ⟨by rw [HX.out], Fr.setCell (Fr.setCell hF3 _ _ (Or.inr (by simp))) _ _ (Or.inr (by simp))⟩
        · have HX : Hd (loadX a v f = ((0, 0), 33)) := by unfold Hd; simp [loadX, hr, h2, hc, hf]
          have hY : followX g a v f = (.slice none 0 0, 33) := by simp [followX, h2, hc, hf]
          rw [hY]
          clear hY
          go_wp2_with fail
          obtain ⟨q0, q1⟩ := res_cells C2 (vI 0) (vI 0)
          refine bodyPost_ret (by simp [results, Try.results12, go_sem, q0, q1]; try rfl) rfl ?_
          exact ⟨by rw [HX.out], Fr.setCell (Fr.setCell hF3 _ _ (Or.inr (by simp))) _ _ (Or.inr (by simp))⟩
    · have HX : Hd (loadX a v f = ((0, 0), 31)) := by unfold Hd; simp [loadX, hr, h2]
      have hY : followX g a v f = (.slice none 0 0, 31) := by simp [followX, h2]
      rw [hY]
      clear hY
      go_wp2_with fail
      obtain ⟨q0, q1⟩ := res_cells C2 (vI 0) (vI 0)
      refine bodyPost_ret (by simp [results, Try.results12, go_sem, q0, q1]; try rfl) rfl ?_
      exact ⟨by rw [HX.out], Fr.setCell (Fr.setCell hF3 _ _ (Or.inr (by simp))) _ _ (Or.inr (by simp))⟩
end Go.Proofs.Ytmdlebolmhnhaab
