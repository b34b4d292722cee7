import Derived.Test.YtlmlmhinbkcpoaaGreatDoorQB3J
import Derived.Laws.IdiomCopy
import Derived.Laws.MakeOwn
namespace Go.Proofs.YtlmlmhinbkcpoaaGreatDoor
open Go.RowKit (wrap32 wrap64)
set_option linter.unusedVariables false
set_option linter.unusedSimpArgs false
set_option maxRecDepth 100000
set_option maxHeartbeats 1000000
def varOk (V v : Int) : Bool := decide (0 ≤ v ∧ v ≤ IntKind.i64.wrap (V - 1))
def WS.getL (s : WS) (o : Nat) : Value := if o = 159 then s.args else s.rets
def WS.setL (s : WS) (o : Nat) (v : Value) : WS := if o = 159 then { s with args := v } else { s with rets := v }
theorem cells_getL (s : WS) (o : Nat) (h : o = 159 ∨ o = 160) : s.cells[o]? = some (s.getL o) := by
  rcases h with rfl | rfl <;> kernel_rfl
def Ints (w : World) (pk po : Nat) (l : List Int) : Prop :=
  ∀ i, (h : i < l.length) → w.cell? ⟨pk, po + i, none⟩ = some (vI l[i]) ∧ w.frozen? ⟨pk, po + i, none⟩ = false
theorem run_make_of (t e : TypeId) (z : Value) (size bytes : Nat) (ht : Tryz.prog.underlying t = some (.slice e)) (hz : (Tryz.prog.info? e).map (·.zero) = some (some z)) (hs : (Tryz.prog.info? e).map (·.size) = some size) (hb : (Tryz.prog.info? e).map (·.bytes) = some bytes)
    (n : Nat) (hn : bytes * n ≤ 281474976710656) (hn' : n ≤ 1000000000000000) (w : World) :
    (Instr.makeSlice t (.int .i64 n) (.int .i64 n)).run Tryz.prog w = .ok (.slice (some ⟨w.heap.size, 0, none⟩) n n) (w.alloc (.cells (madeCells z.cells (n * size)) e)) := by
  cases hi : Tryz.prog.info? e with
  | none => rw [hi] at hz; cases hz
  | some i =>
    rw [hi] at hz hs hb
    simp only [Option.map_some, Option.some.injEq] at hz hs hb
    have := run_make (P := Tryz.prog) w t e i z ht hi hz .i64 .i64 n n (by omega) (by omega) (by rw [hb, ← Int.natCast_mul]; omega) (by omega)
    rw [this, hs]
    simp
def Plain (R : Ending → World → Prop) (e : Ending) (w' : World) : Prop := (e = .returned (.tuple #[]) ∨ ∃ c, e = .panicked c) ∧ R e w'
theorem ownResults_any {b : Nat} (o n : Nat) (s : WS) (w : World) (h : Lies w b s) (hn : s.fR = n) (R : Ending → World → Prop)
    (hc : Calls Tryz.prog 103 #[.pointer (some ⟨b, 0, none⟩), .pointer (some ⟨b, o, none⟩), .int .i64 n] w (Plain R)) :
    Calls Tryz.prog 94 #[.pointer (some ⟨b, 0, none⟩), .pointer (some ⟨b, o, none⟩)] w R := by
  have c150 : w.cell? ⟨b, 150, none⟩ = some (vI n) := by rw [h.facts.2.2.2.2.2.2.1, hn]
  go_enter Tryz.func94, Tryz.ntmps94
  go_wp2_with fail
  refine hc.mono ?_
  rintro e w' ⟨rfl | ⟨c, rfl⟩, hr⟩
  · go_wp2_with fail
    go_end0
    exact hr
  · go_wp2_with fail
    exact ⟨rfl, hr⟩
theorem calleeParams_any {b : Nat} (o n N fb fo nf fc : Nat) (s : WS) (w : World) (h : Lies w b s) (hN : s.n = N) (hNf : N < nf) (hfu : s.funcs = .slice (some ⟨fb, fo, none⟩) nf fc) (hcn : w.cell? ⟨fb, fo + N * 4, none⟩ = some (vI n)) (R : Ending → World → Prop)
    (hc : Calls Tryz.prog 103 #[.pointer (some ⟨b, 0, none⟩), .pointer (some ⟨b, o, none⟩), .int .i64 n] w.drew (Plain R)) :
    Calls Tryz.prog 91 #[.pointer (some ⟨b, 0, none⟩), .pointer (some ⟨b, o, none⟩)] w R := by
  have c158 : w.cell? ⟨b, 158, none⟩ = some (vI N) := by rw [h.facts.2.2.2.2.2.2.2.2.2.2.2.2.2.2.1, hN]
  have c147 : w.cell? ⟨b, 147, none⟩ = some (.slice (some ⟨fb, fo, none⟩) nf fc) := by rw [h.facts.2.2.2.1, hfu]
  have hb : 0 ≤ (N : Int) ∧ (N : Int) < nf := by omega
  go_enter Tryz.func91, Tryz.ntmps91
  go_wp2_with fail
  refine wp_region_still_tail 14 mixed (by kernel_rfl) ?_
  simp only [List.take_succ_cons, List.take_zero, List.drop_succ_cons, List.drop_zero]
  repeat still_step
  refine wpStill_nil ?_
  go_wp2_with fail
  refine hc.mono ?_
  rintro e w' ⟨rfl | ⟨c, rfl⟩, hr⟩
  · go_wp2_with fail
    go_end0
    exact hr
  · go_wp2_with fail
    exact ⟨rfl, hr⟩
theorem calleeResults_any {b : Nat} (o n N fb fo nf fc : Nat) (s : WS) (w : World) (h : Lies w b s) (hN : s.n = N) (hNf : N < nf) (hfu : s.funcs = .slice (some ⟨fb, fo, none⟩) nf fc) (hcn : w.cell? ⟨fb, fo + N * 4 + 1, none⟩ = some (vI n)) (R : Ending → World → Prop)
    (hc : Calls Tryz.prog 103 #[.pointer (some ⟨b, 0, none⟩), .pointer (some ⟨b, o, none⟩), .int .i64 n] w.drew (Plain R)) :
    Calls Tryz.prog 92 #[.pointer (some ⟨b, 0, none⟩), .pointer (some ⟨b, o, none⟩)] w R := by
  have c158 : w.cell? ⟨b, 158, none⟩ = some (vI N) := by rw [h.facts.2.2.2.2.2.2.2.2.2.2.2.2.2.2.1, hN]
  have c147 : w.cell? ⟨b, 147, none⟩ = some (.slice (some ⟨fb, fo, none⟩) nf fc) := by rw [h.facts.2.2.2.1, hfu]
  have hb : 0 ≤ (N : Int) ∧ (N : Int) < nf := by omega
  go_enter Tryz.func92, Tryz.ntmps92
  go_wp2_with fail
  refine wp_region_still_tail 14 mixed (by kernel_rfl) ?_
  simp only [List.take_succ_cons, List.take_zero, List.drop_succ_cons, List.drop_zero]
  repeat still_step
  refine wpStill_nil ?_
  go_wp2_with fail
  refine hc.mono ?_
  rintro e w' ⟨rfl | ⟨c, rfl⟩, hr⟩
  · go_wp2_with fail
    go_end0
    exact hr
  · go_wp2_with fail
    exact ⟨rfl, hr⟩
end Go.Proofs.YtlmlmhinbkcpoaaGreatDoor
namespace Go.Proofs.YtlmlmhinbkcpoaaGreatDoor
set_option linter.unusedVariables false
set_option linter.unusedSimpArgs false
theorem run_neq81_f (f : Nat) (w : World) : (binOp .neq 110 (vF f) .nilFunc).run Tryz.prog w = .ok (.bool true) w := by kernel_rfl
theorem run_neq81_n (w : World) : (binOp .neq 110 vN .nilFunc).run Tryz.prog w = .ok (.bool false) w := by kernel_rfl
theorem run_neq82_f (f : Nat) (w : World) : (binOp .neq 111 (vF f) .nilFunc).run Tryz.prog w = .ok (.bool true) w := by kernel_rfl
theorem run_neq82_n (w : World) : (binOp .neq 111 vN .nilFunc).run Tryz.prog w = .ok (.bool false) w := by kernel_rfl
def lenOf : Value → Nat
  | .slice _ n _ => n
  | _ => 0
end Go.Proofs.YtlmlmhinbkcpoaaGreatDoor
