import Derived.Test.YtkkfiipnpdlkeaaQRk
import Derived.Test.YtkkfiipnpdlkeaaQE5
namespace Go.Proofs.Ytkkfiipnpdlkeaa
open Go.ChangeShapes Go.WideShapes Go.ChangeAt Go.RowKit
set_option linter.unusedVariables false
set_option linter.unusedSimpArgs false

theorem under34 : Try.prog.underlying 34 = some (.slice 40) := by kernel_rfl
theorem cells40 : Try.prog.cellsOf 40 = 3 := by kernel_rfl
theorem bytes40 : Try.prog.bytesOf 40 = 24 := by kernel_rfl
def fld (name : String) (type offset byteOffset : Nat) : Field := { name := name, type := type, offset := offset, embedded := false, tag := "", pkgPath := "", byteOffset := byteOffset }
theorem under40 : Try.prog.underlying 40 = some (.struct #[fld "Kind" 3 0 0, fld "On" 3 1 8, fld "Task" 3 2 16]) := by kernel_rfl

set_option maxRecDepth 100000 in
/-- A call that came in. -/
theorem op_of {H : Type} {enc : TypeId × Value → H} {W : World} {n : Nat} {cs : List Value} {x : DataW H × List MemPlace} (h : DataW.trod enc Try.prog W 0 (fun _ => true) true n 40 cs = some x) :
    ∃ a b c : Int, cs = [vI a, vI b, vI c] := by
  obtain ⟨xs, k, -, rfl, hcl, hxl, hf⟩ := DataW.trod_struct under40 h
  rw [cells40] at hcl
  have hxl : xs.length = 3 := hxl
  obtain ⟨c0, r0, rfl, hl1⟩ := len_cons hcl
  obtain ⟨c1, r1, rfl, hl2⟩ := len_cons hl1
  obtain ⟨c2, r2, rfl, hl3⟩ := len_cons hl2
  obtain rfl := List.length_eq_zero_iff.1 hl3
  have g0 := hf 0 (fld "Kind" 3 0 0) rfl
  have g1 := hf 1 (fld "On" 3 1 8) rfl
  have g2 := hf 2 (fld "Task" 3 2 16) rfl
  have e0 : xs[0]? = some (xs[0]'(by omega)) := List.getElem?_eq_getElem (by omega)
  have e1 : xs[1]? = some (xs[1]'(by omega)) := List.getElem?_eq_getElem (by omega)
  have e2 : xs[2]? = some (xs[2]'(by omega)) := List.getElem?_eq_getElem (by omega)
  rw [e0] at g0
  rw [e1] at g1
  rw [e2] at g2
  simp only [fld, cells3, List.drop_zero, List.drop_succ_cons, List.take_succ_cons, List.take_zero] at g0 g1 g2
  obtain ⟨z0, f0, -⟩ := ints_of g0
  obtain ⟨z1, f1, -⟩ := ints_of g1
  obtain ⟨z2, f2, -⟩ := ints_of g2
  have f0 := (List.cons.inj f0).1
  have f1 := (List.cons.inj f1).1
  have f2 := (List.cons.inj f2).1
  subst f0
  subst f1
  subst f2
  exact ⟨z0, z1, z2, rfl⟩
/-- Calls that came in. -/
theorem ops_in {H : Type} {enc : TypeId × Value → H} {W : World} {n : Nat} {c : Value} {x : DataW H × List MemPlace} (h : DataW.trod enc Try.prog W 0 (fun _ => true) true n 34 [c] = some x) (hx : Szd x.1 34) :
    ∃ ops : List OpT, OpsAt W W.heap.size c ops ∧ ops.length ≤ 17592186043904 := by
  have hr := reach_is
  obtain ⟨l, hl, a, cp, e, hcp, hin⟩ := rows_sz under34 cells40 bytes40 (by omega) h hx ((0, 0, 0) : OpT)
    (fun q cs => cs = [vI q.1, vI q.2.1, vI q.2.2])
    (fun n cs y hy hs => by
      obtain ⟨a, b, c, hcs⟩ := op_of hy
      exact ⟨(a, b, c), hcs⟩)
  refine ⟨l, ⟨a, cp, e, fun hne => ?_⟩, by omega⟩
  obtain ⟨k, o, rfl, hk, hc⟩ := hin hne
  refine ⟨k, o, rfl, hk, fun j hj => ?_⟩
  obtain ⟨cs, hcs, hcell⟩ := hc j hj
  subst hcs
  exact ⟨hcell 0 (by omega), hcell 1 (by omega), hcell 2 (by omega)⟩
end Go.Proofs.Ytkkfiipnpdlkeaa
