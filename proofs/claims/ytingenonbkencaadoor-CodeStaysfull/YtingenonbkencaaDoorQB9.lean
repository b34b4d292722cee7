import Derived.Test.YtingenonbkencaaDoorQB8
namespace Go.Proofs.YtingenonbkencaaDoor
open Go.RowKit (wrap32 wrap64)
set_option linter.unusedVariables false
set_option linter.unusedSimpArgs false
set_option maxRecDepth 100000
set_option maxHeartbeats 1000000
def Plain (R : Ending → World → Prop) (e : Ending) (w' : World) : Prop := (e = .returned (.tuple #[]) ∨ ∃ c, e = .panicked c) ∧ R e w'
theorem ownResults_any {b : Nat} (o n : Nat) (s : WS) (w : World) (h : Lies w b s) (hn : s.fR = n) (R : Ending → World → Prop)
    (hc : Calls Tryd.prog 100 #[.pointer (some ⟨b, 0, none⟩), .pointer (some ⟨b, o, none⟩), .int .i64 n] w (Plain R)) :
    Calls Tryd.prog 89 #[.pointer (some ⟨b, 0, none⟩), .pointer (some ⟨b, o, none⟩)] w R := by
  have c150 : w.cell? ⟨b, 150, none⟩ = some (vI n) := by rw [h.facts.2.2.2.2.2.2.1, hn]
  go_enter Tryd.func89, Tryd.ntmps89
  go_wp2_with fail
  refine hc.mono ?_
  rintro e w' ⟨rfl | ⟨c, rfl⟩, hr⟩
  · go_wp2_with fail
    go_end0
    exact hr
  · go_wp2_with fail
    exact ⟨rfl, hr⟩
theorem calleeParams_any {b : Nat} (o n N fb fo nf fc : Nat) (s : WS) (w : World) (h : Lies w b s) (hN : s.n = N) (hNf : N < nf) (hfu : s.funcs = .slice (some ⟨fb, fo, none⟩) nf fc) (hcn : w.cell? ⟨fb, fo + N * 4, none⟩ = some (vI n)) (R : Ending → World → Prop)
    (hc : Calls Tryd.prog 100 #[.pointer (some ⟨b, 0, none⟩), .pointer (some ⟨b, o, none⟩), .int .i64 n] w.drew (Plain R)) :
    Calls Tryd.prog 86 #[.pointer (some ⟨b, 0, none⟩), .pointer (some ⟨b, o, none⟩)] w R := by
  have c158 : w.cell? ⟨b, 158, none⟩ = some (vI N) := by rw [h.facts.2.2.2.2.2.2.2.2.2.2.2.2.2.2.1, hN]
  have c147 : w.cell? ⟨b, 147, none⟩ = some (.slice (some ⟨fb, fo, none⟩) nf fc) := by rw [h.facts.2.2.2.1, hfu]
  have hb : 0 ≤ (N : Int) ∧ (N : Int) < nf := by omega
  go_enter Tryd.func86, Tryd.ntmps86
  go_wp2_with fail
  refine wp_region_still_tail 14 mixed (by kernel_rfl) ?_
  simp only [List.take_succ_cons, List.take_zero, List.drop_succ_cons, List.drop_zero]
  repeat still_step
  refine wpStill_nil ?_
  go_wp2_with fail
  refine hc.mono ?_
  rintro e w' ⟨rfl | ⟨c, rfl⟩, hr⟩
  · go_wp2_with fail
    go_end0
    exact hr
  · go_wp2_with fail
    exact ⟨rfl, hr⟩
theorem calleeResults_any {b : Nat} (o n N fb fo nf fc : Nat) (s : WS) (w : World) (h : Lies w b s) (hN : s.n = N) (hNf : N < nf) (hfu : s.funcs = .slice (some ⟨fb, fo, none⟩) nf fc) (hcn : w.cell? ⟨fb, fo + N * 4 + 1, none⟩ = some (vI n)) (R : Ending → World → Prop)
    (hc : Calls Tryd.prog 100 #[.pointer (some ⟨b, 0, none⟩), .pointer (some ⟨b, o, none⟩), .int .i64 n] w.drew (Plain R)) :
    Calls Tryd.prog 87 #[.pointer (some ⟨b, 0, none⟩), .pointer (some ⟨b, o, none⟩)] w R := by
  have c158 : w.cell? ⟨b, 158, none⟩ = some (vI N) := by rw [h.facts.2.2.2.2.2.2.2.2.2.2.2.2.2.2.1, hN]
  have c147 : w.cell? ⟨b, 147, none⟩ = some (.slice (some ⟨fb, fo, none⟩) nf fc) := by rw [h.facts.2.2.2.1, hfu]
  have hb : 0 ≤ (N : Int) ∧ (N : Int) < nf := by omega
  go_enter Tryd.func87, Tryd.ntmps87
  go_wp2_with fail
  refine wp_region_still_tail 14 mixed (by kernel_rfl) ?_
  simp only [List.take_succ_cons, List.take_zero, List.drop_succ_cons, List.drop_zero]
  repeat still_step
  refine wpStill_nil ?_
  go_wp2_with fail
  refine hc.mono ?_
  rintro e w' ⟨rfl | ⟨c, rfl⟩, hr⟩
  · go_wp2_with fail
    go_end0
    exact hr
  · go_wp2_with fail
    exact ⟨rfl, hr⟩
end Go.Proofs.YtingenonbkencaaDoor
