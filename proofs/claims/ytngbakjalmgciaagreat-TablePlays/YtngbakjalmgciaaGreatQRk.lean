import Derived.Test.YtngbakjalmgciaaGreatQA1J
import Derived.Test.YtngbakjalmgciaaGreatRows
import Derived.ProofKit
import Derived.OpenShut
import Derived.ChangeOld
import Derived.Below
import Derived.Carry
import Derived.SizedLaws
import Derived.Deep.SlicePairs
namespace Go.Proofs.YtngbakjalmgciaaGreat
open Go.ChangeShapes Go.WideShapes Go.ChangeAt Go.RowKit
set_option linter.unusedVariables false
set_option linter.unusedSimpArgs false

theorem knob : ownKnob Tryz.prog.godebug = none := by kernel_rfl
theorem laysOut : laidOutB Tryz.prog = true := by kernel_rfl
theorem under4 : Tryz.prog.underlying 4 = some .bool := by kernel_rfl
theorem under9 : Tryz.prog.underlying 9 = some .string := by kernel_rfl
theorem cells3 : Tryz.prog.cellsOf 3 = 1 := by kernel_rfl
theorem cells9 : Tryz.prog.cellsOf 9 = 1 := by kernel_rfl
theorem cells23 : Tryz.prog.cellsOf 31 = 3 := by kernel_rfl
theorem reach_is : reachBytes = 140737488351232 := by decide
theorem fr_below {w w' : World} (hf : Fr (fun _ => False) w w') : Below w.heap.size w w' := ⟨hf.os, hf.tape, hf.output, hf.size, fun k hk => hf.block k hk (fun h => h)⟩
theorem in64_of {z : Int} (hw : (Lit.int .i64 z).wf = true) : In64 z := by
  have h : IntKind.i64.min ≤ z ∧ z ≤ 9223372036854775807 := by simpa [Lit.wf] using hw
  exact ⟨h.1, h.2⟩
theorem ints_of {H : Type} {enc : TypeId × Value → H} {W : World} {n : Nat} {cs : List Value} {x : DataW H × List MemPlace} (h : DataW.trod enc Tryz.prog W 0 (fun _ => true) true n 3 cs = some x) : ∃ z : Int, cs = [vI z] ∧ In64 z := by
  obtain ⟨z, e, -, hw⟩ := DataW.trod_int under3 h
  exact ⟨z, e, in64_of hw⟩
def fld (name : String) (type offset byteOffset : Nat) : Field := { name := name, type := type, offset := offset, embedded := false, tag := "", pkgPath := "", byteOffset := byteOffset }
theorem under23 : Tryz.prog.underlying 31 = some (.struct #[fld "Kind" 3 0 0, fld "Key" 3 1 8, fld "Value" 9 2 16]) := by kernel_rfl
theorem len_cons {n : Nat} : ∀ {cs : List Value}, cs.length = n + 1 → ∃ c r, cs = c :: r ∧ r.length = n
  | c :: r, h => ⟨c, r, rfl, by simpa using h⟩

set_option maxRecDepth 100000 in
/-- A call that came in. -/
theorem op_of {H : Type} {enc : TypeId × Value → H} {W : World} {n : Nat} {cs : List Value} {x : DataW H × List MemPlace} (h : DataW.trod enc Tryz.prog W 0 (fun _ => true) true n 31 cs = some x) :
    ∃ (kd ky : Int) (s : ByteArray), cs = [vI kd, vI ky, .string s] ∧ In64 kd ∧ In64 ky ∧ ∃ q ∈ x.1.weights Tryz.prog 31, s.size ≤ q := by
  obtain ⟨xs, k, -, rfl, hcl, hxl, hf⟩ := DataW.trod_struct under23 h
  rw [cells23] at hcl
  have hxl : xs.length = 3 := hxl
  obtain ⟨c0, r0, rfl, hl1⟩ := len_cons hcl
  obtain ⟨c1, r1, rfl, hl2⟩ := len_cons hl1
  obtain ⟨c2, r2, rfl, hl3⟩ := len_cons hl2
  obtain rfl := List.length_eq_zero_iff.1 hl3
  have g0 := hf 0 (fld "Kind" 3 0 0) rfl
  have g1 := hf 1 (fld "Key" 3 1 8) rfl
  have g2 := hf 2 (fld "Value" 9 2 16) rfl
  have e0 : xs[0]? = some (xs[0]'(by omega)) := List.getElem?_eq_getElem (by omega)
  have e1 : xs[1]? = some (xs[1]'(by omega)) := List.getElem?_eq_getElem (by omega)
  have e2 : xs[2]? = some (xs[2]'(by omega)) := List.getElem?_eq_getElem (by omega)
  rw [e0] at g0
  rw [e1] at g1
  rw [e2] at g2
  simp only [fld, cells3, cells9, List.drop_zero, List.drop_succ_cons, List.take_succ_cons, List.take_zero] at g0 g1 g2
  obtain ⟨z0, f0, i0⟩ := ints_of g0
  obtain ⟨z1, f1, i1⟩ := ints_of g1
  obtain ⟨s, f2, hx2, -⟩ := DataW.trod_string under9 g2
  have f0 := (List.cons.inj f0).1
  have f1 := (List.cons.inj f1).1
  have f2 := (List.cons.inj f2).1
  subst f0
  subst f1
  subst f2
  refine ⟨z0, z1, s, rfl, i0, i1, s.size, ?_, Nat.le_refl _⟩
  simp only [DataW.weights, under23]
  refine DataW.weights_mem_each (j := 2) (t := 9) (d := (xs[2]'(by omega)).1) rfl (by rw [List.getElem?_map, e2]; rfl) s.size ?_
  rw [hx2]
  have hw : ∀ (l : List UInt8), l.length ∈ (DataW.lit (H := H) (.string l)).weights Tryz.prog 9 := fun l => by simp [DataW.weights]
  exact hw s.data.toList

end Go.Proofs.YtngbakjalmgciaaGreat
