import Derived.Test.YtjmbfjaahadbhaaGreatDoorQKa
set_option linter.unusedVariables false
set_option linter.unusedSimpArgs false
namespace Go.Proofs.YtjmbfjaahadbhaaGreatDoor
open Go.RowKit (wrap32 wrap64)

set_option maxRecDepth 100000 in
set_option maxHeartbeats 2000000 in
theorem rwanted_V (rb : Nat) (w : World) (P R V : Int) (a : Option Addr) (l c : Nat) (op zr zs zt zn : Int) (aa ra : Option Addr) (la ca lr cr : Nat) :
    Calls Tryz.prog 95 #[.pointer (some ⟨rb, 0, none⟩), .int .u8 86, .agg #[vI P, vI R, vI V, .slice a l c], .agg #[vI op, vI zr, vI zs, vI zt, vI zn, .slice aa la ca, .slice ra lr cr]] w fun r w' => r = .returned (vI R) ∧ Fr (fun _ => False) w w' := by
  go_enter Tryz.func95, Tryz.ntmps95
  go_wp2_with fail
  go_ret
  refine ⟨rfl, ?_⟩
  repeat first
    | exact Fr.refl _ _
    | refine Fr.drew ?_
    | refine Fr.alloc ?_ _

set_option maxRecDepth 100000 in
set_option maxHeartbeats 2000000 in
theorem rwanted_A (rb fk fo nf fc N : Nat) (G : Int) (w : World) (L E : Int) (h : RW rb G (.slice (some ⟨fk, fo, none⟩) nf fc) w L E) (hN : N < nf) (X : Int) (hX : w.cell? ⟨fk, fo + N * 4, none⟩ = some (vI X)) (P R V : Int) (a : Option Addr) (l c : Nat) (op zr zs zt : Int) (aa ra : Option Addr) (la ca lr cr : Nat) :
    Calls Tryz.prog 95 #[.pointer (some ⟨rb, 0, none⟩), .int .u8 65, .agg #[vI P, vI R, vI V, .slice a l c], .agg #[vI op, vI zr, vI zs, vI zt, vI N, .slice aa la ca, .slice ra lr cr]] w fun r w' => r = .returned (vI X) ∧ Fr (fun _ => False) w w' := by
  obtain ⟨c0, c1, -, -, hz, hlt⟩ := h.cells
  have hfl : fk < w.heap.size := cell_lt hX
  clear h
  go_enter Tryz.func95, Tryz.ntmps95
  go_wp2_with fail
  go_region
  go_wp2_with fail
  go_ret
  refine ⟨rfl, ?_⟩
  repeat first
    | exact Fr.refl _ _
    | refine Fr.drew ?_
    | refine Fr.alloc ?_ _

set_option maxRecDepth 100000 in
set_option maxHeartbeats 2000000 in
theorem rwanted_B (rb fk fo nf fc N : Nat) (G : Int) (w : World) (L E : Int) (h : RW rb G (.slice (some ⟨fk, fo, none⟩) nf fc) w L E) (hN : N < nf) (X : Int) (hX : w.cell? ⟨fk, fo + N * 4 + 1, none⟩ = some (vI X)) (P R V : Int) (a : Option Addr) (l c : Nat) (op zr zs zt : Int) (aa ra : Option Addr) (la ca lr cr : Nat) :
    Calls Tryz.prog 95 #[.pointer (some ⟨rb, 0, none⟩), .int .u8 66, .agg #[vI P, vI R, vI V, .slice a l c], .agg #[vI op, vI zr, vI zs, vI zt, vI N, .slice aa la ca, .slice ra lr cr]] w fun r w' => r = .returned (vI X) ∧ Fr (fun _ => False) w w' := by
  obtain ⟨c0, c1, -, -, hz, hlt⟩ := h.cells
  have hfl : fk < w.heap.size := cell_lt hX
  clear h
  go_enter Tryz.func95, Tryz.ntmps95
  go_wp2_with fail
  go_region
  go_wp2_with fail
  go_ret
  refine ⟨rfl, ?_⟩
  repeat first
    | exact Fr.refl _ _
    | refine Fr.drew ?_
    | refine Fr.alloc ?_ _

end Go.Proofs.YtjmbfjaahadbhaaGreatDoor
