import Derived.Test.YtmdlebolmhnhaaaA2
namespace Go.Proofs.Ytmdlebolmhnhaaa
open Go.RowKit (wrap32 wrap64)
open Go.Maps (Keyed)
set_option linter.unusedVariables false
set_option linter.unusedSimpArgs false

theorem under61 : Try.prog.underlying 61 = some (.map 3 22) := by kernel_rfl
theorem under3 : Try.prog.underlying 3 = some (.int .i64) := by kernel_rfl
theorem keyed3 : Keyed Try.prog 3 := Maps.int_keyed under3
theorem zero22 (w : World) : (zeroValue 22).run Try.prog w = .ok (.slice none 0 0) w := by kernel_rfl
theorem wf_nat (n : Nat) (h : n ≤ 9000000000000000000) : (Lit.int .i64 n).wf = true := WalkArith.wf_i64 (by omega)

/-- What the map tells of a number. -/
theorem Mem.look {w : World} {b : Nat} {g : Gh} {a : Abs} (h : Mem w b g a) (i : Nat) (hi : i ≤ 9000000000000000000) :
    (Instr.lookup 61 (.map (some g.tb)) (vI i) true).run Try.prog w = .ok (.tuple #[match a.cells i with | some l => .slice (some ⟨g.blk i, 0, none⟩) l.length l.length | none => .slice none 0 0, .bool (a.cells i).isSome]) w := by
  obtain ⟨v, ps, hrun, hv⟩ := h.map.look_ok keyed3 under61 (zero22 w) (zd := .nil) (zp := []) rfl (Maps.keyOf_int_mk under3 (wf_nat i hi))
  rw [hrun, h.has i]
  cases hc : a.cells i with
  | none =>
    have hn : Maps.has g.D (.int .i64 i) = false := by rw [h.has i, hc]; rfl
    rw [Maps.atKey_of_not_has hn] at hv
    rw [Rc_nil hv]
  | some l =>
    rw [h.atk i l hc] at hv
    rw [Rc_inv hv]

/-- follow: the slice of a cell's fields, or an error. -/
def followX (g : Gh) (a : Abs) (v : Val) (f : Int) : Value × Int :=
  if v.1 ≠ 2 then (.slice none 0 0, 31) else
  match a.cells v.2.toNat with
  | none => (.slice none 0 0, 32)
  | some l => if 0 ≤ f ∧ f < l.length then (.slice (some ⟨g.blk v.2.toNat, 0, none⟩) l.length l.length, 0) else (.slice none 0 0, 33)

set_option maxRecDepth 100000 in
set_option maxHeartbeats 1000000 in
theorem follow_any (b : Nat) (g : Gh) (a : Abs) (v : Val) (f : Int) (w : World) (h : Mem w b g a) (hr : rightB a.made v = true) (hm : a.made ≤ 1000000000000000) :
    Calls Try.prog 27 #[.pointer (some ⟨b, 0, none⟩), vv v, vI f] w fun e w' => e = .returned (.tuple #[(followX g a v f).1, vI (followX g a v f).2]) ∧ Fr (fun _ => False) w w' := by
  obtain ⟨k, n⟩ := v
  by_cases h2 : k = 2
  · subst h2
    simp only [rightB] at hr
    obtain ⟨hn1, hn2⟩ : 1 ≤ n ∧ n ≤ a.made := by simpa using hr
    obtain ⟨i, rfl⟩ := Int.eq_ofNat_of_zero_le (show 0 ≤ n by omega)
    have hA := h.alloc (.cells #[vI 2, vI i] 32)
    have hL := hA.drew.look i (by omega)
    have f0 := hA.facts.2.2.1
    have hb := h.lt
    have c0 : (w.alloc (.cells #[vI 2, vI i] 32)).cell? ⟨w.heap.size, 0, none⟩ = some (vI 2) := by rw [World.cell?_alloc_new]; rfl
    have c1 : (w.alloc (.cells #[vI 2, vI i] 32)).cell? ⟨w.heap.size, 1, none⟩ = some (vI i) := by rw [World.cell?_alloc_new]; rfl
    have hF : Fr (fun _ => False) w (w.alloc (.cells #[vI 2, vI i] 32)) := Fr.alloc (Fr.refl _ w) _
    have hX : followX g a (2, (i : Int)) f = match a.cells i with
      | none => (.slice none 0 0, 32)
      | some l => if 0 ≤ f ∧ f < l.length then (.slice (some ⟨g.blk i, 0, none⟩) l.length l.length, 0) else (.slice none 0 0, 33) := by
      simp [followX]
    rw [hX]
    cases hc : a.cells i with
    | none =>
      rw [hc] at hL
      clear hc hr hX
      go_enter Try.func27, Try.ntmps27
      go_wp2
      generalize w.alloc (.cells #[vI 2, vI i] 32) = w1 at *
      refine wp_region_still_tail 11 mixed (by kernel_rfl) ?_
      simp only [List.take_succ_cons, List.take_zero, List.drop_succ_cons, List.drop_zero]
      repeat still_step
      refine wpStill_nil ?_
      go_wp2_with fail
      go_ret2
      exact ⟨rfl, hF.drew⟩
    | some l =>
      rw [hc] at hL
      have hl : l.length ≤ 8 := (h.cell i l hc).2.2.2.2
      clear hc hr hX
      by_cases hf0 : 0 ≤ f
      · have d0 : decide (f < 0) = false := by simpa using hf0
        by_cases hf1 : f < l.length
        · have d1 : decide ((l.length : Int) ≤ f) = false := by simpa using hf1
          go_enter Try.func27, Try.ntmps27
          go_wp2
          generalize w.alloc (.cells #[vI 2, vI i] 32) = w1 at *
          refine wp_region_still_tail 11 mixed (by kernel_rfl) ?_
          simp only [List.take_succ_cons, List.take_zero, List.drop_succ_cons, List.drop_zero]
          repeat still_step
          refine wpStill_nil ?_
          go_wp2_with fail
          go_ret2
          exact ⟨by simp [hf0, hf1], hF.drew⟩
        · have d1 : decide ((l.length : Int) ≤ f) = true := by simp; omega
          go_enter Try.func27, Try.ntmps27
          go_wp2
          generalize w.alloc (.cells #[vI 2, vI i] 32) = w1 at *
          refine wp_region_still_tail 11 mixed (by kernel_rfl) ?_
          simp only [List.take_succ_cons, List.take_zero, List.drop_succ_cons, List.drop_zero]
          repeat still_step
          refine wpStill_nil ?_
          go_wp2_with fail
          go_ret2
          exact ⟨by simp [hf1], hF.drew⟩
      · have d0 : decide (f < 0) = true := by simp; omega
        go_enter Try.func27, Try.ntmps27
        go_wp2
        generalize w.alloc (.cells #[vI 2, vI i] 32) = w1 at *
        refine wp_region_still_tail 11 mixed (by kernel_rfl) ?_
        simp only [List.take_succ_cons, List.take_zero, List.drop_succ_cons, List.drop_zero]
        repeat still_step
        refine wpStill_nil ?_
        go_wp2_with fail
        go_ret2
        exact ⟨by simp [hf0], hF.drew⟩
  · have b2 := eqb_false h2
    go_enter Try.func27, Try.ntmps27
    go_wp2
    go_ret2
    exact ⟨by simp [followX, h2], Fr.alloc (Fr.refl _ w) _⟩

end Go.Proofs.Ytmdlebolmhnhaaa
