import Derived.Test.YtingenonbkencaaDoorQB4J
namespace Go.Proofs.YtingenonbkencaaDoor
open Go.RowKit (wrap32 wrap64)
set_option linter.unusedVariables false
set_option linter.unusedSimpArgs false
set_option maxRecDepth 100000
set_option maxHeartbeats 1000000
def varOk (V v : Int) : Bool := decide (0 ≤ v ∧ v ≤ IntKind.i64.wrap (V - 1))
def oneX {b : Nat} (M : Mode b) (old : Int) (x : WS × M.σ) : X (Int × (WS × M.σ)) :=
  match M.eff x.2 x.1.at' 1 old with
  | .ok (v, st) => if varOk x.1.fV v then .ok (v, ({ x.1 with at' := adv x.1.at' 1 }, st)) else .error (13, x.1.at')
  | .error z => .error z
def EndsAt {b : Nat} (M : Mode b) (w : World) (pb po : Nat) (r : X (Int × (WS × M.σ))) (e : Ending) (w' : World) : Prop :=
  Fr (fun k => M.SB k ∨ k = pb) w w' ∧ match r with
    | .ok (v, y) => e = .returned (.tuple #[]) ∧ On M w' y ∧ w'.heap[pb]? = (w.setCell ⟨pb, po, none⟩ (vI v)).heap[pb]?
    | .error z => e = .panicked (viol z.1 z.2)
theorem variable_other {b : Nat} (M : Mode b) (hO : NextOther M) (pb po : Nat) (hpb : pb ≠ b) (hS : ¬ M.S pb) (hNn : ¬ M.N pb) (x : WS × M.σ) (old : Int) (w : World) (h : On M w x) (hu : w.cell? ⟨pb, po, none⟩ = some (vI old)) (hz : w.frozen? ⟨pb, po, none⟩ = false) :
    Calls Tryd.prog 80 #[.pointer (some ⟨b, 0, none⟩), .pointer (some ⟨pb, po, none⟩)] w (EndsAt M w pb po (oneX M old x)) := by
  go_enter Tryd.func80, Tryd.ntmps80
  go_wp2_with fail
  refine (hO pb po hpb hS hNn x old 1 _ h (by omega) (by omega) hu hz).mono ?_
  rintro e w1 ⟨hf, hres⟩
  cases hx : M.eff x.2 x.1.at' 1 old with
  | error z =>
    simp only [hx] at hres
    subst hres
    go_wp2_with fail
    refine ⟨rfl, hf, ?_⟩
    simp only [oneX, hx]
  | ok vs =>
  obtain ⟨v, st⟩ := vs
  simp only [hx] at hres
  obtain ⟨rfl, hon, hblk⟩ := hres
  have hlt : pb < w.heap.size := cell_lt hu
  have hc : w1.cell? ⟨pb, po, none⟩ = some (vI v) := by
    rw [World.cell?_of_block (a := ⟨pb, po, none⟩) hblk]
    exact World.cell?_setCell_same _ _ _ hu
  have hcV : w1.cell? ⟨b, 151, none⟩ = some (vI x.1.fV) := hon.1.facts.2.2.2.2.2.2.2.1
  have HB : Hd (w1.heap[pb]? = (w.setCell ⟨pb, po, none⟩ (vI v)).heap[pb]?) := hblk
  have HX : Hd (oneX M old x = if varOk x.1.fV v then .ok (v, ({ x.1 with at' := adv x.1.at' 1 }, st)) else .error (13, x.1.at')) := by
    unfold Hd; simp only [oneX, hx]
  clear hblk hx hu hz
  by_cases hm : varOk x.1.fV v = true
  · have hm' : decide (0 ≤ v ∧ v ≤ IntKind.i64.wrap (x.1.fV - 1)) = true := by exact hm
    have HM : Hd (varOk x.1.fV v = true) := hm'
    clear hm
    go_wp2_with fail
    refine wp_region_still_tail 11 mixed (by kernel_rfl) ?_
    simp only [List.take_succ_cons, List.take_zero, List.drop_succ_cons, List.drop_zero]
    repeat still_step
    still_call (within_any _ _ _ _)
    repeat still_step
    refine wpStill_nil ?_
    go_wp2_with fail
    refine (must_true 13 x.1.at' _).mono ?_
    rintro e w' ⟨rfl, rfl⟩
    go_wp2_with fail
    go_end0
    refine ⟨hf.drew, ?_⟩
    rw [HX.out, HM.out, if_pos rfl]
    exact ⟨rfl, hon.drew, HB.out⟩
  · have hm' : decide (0 ≤ v ∧ v ≤ IntKind.i64.wrap (x.1.fV - 1)) = false := by simpa [varOk] using hm
    have HM : Hd (varOk x.1.fV v = false) := hm'
    clear hm
    go_wp2_with fail
    refine wp_region_still_tail 11 mixed (by kernel_rfl) ?_
    simp only [List.take_succ_cons, List.take_zero, List.drop_succ_cons, List.drop_zero]
    repeat still_step
    still_call (within_any _ _ _ _)
    repeat still_step
    refine wpStill_nil ?_
    go_wp2_with fail
    refine (must_false 13 x.1.at' _).mono ?_
    rintro e w' ⟨rfl, rfl⟩
    go_wp2_with fail
    refine ⟨rfl, hf.drew, ?_⟩
    rw [HX.out, HM.out, if_neg (by simp)]
end Go.Proofs.YtingenonbkencaaDoor
