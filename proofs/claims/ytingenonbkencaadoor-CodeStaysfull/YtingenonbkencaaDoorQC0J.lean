import Derived.Test.YtingenonbkencaaDoorQB9
namespace Go.Proofs.YtingenonbkencaaDoor
set_option linter.unusedVariables false
set_option linter.unusedSimpArgs false
theorem run_neq81_f (f : Nat) (w : World) : (binOp .neq 81 (vF f) .nilFunc).run Tryd.prog w = .ok (.bool true) w := by kernel_rfl
theorem run_neq81_n (w : World) : (binOp .neq 81 vN .nilFunc).run Tryd.prog w = .ok (.bool false) w := by kernel_rfl
theorem run_neq82_f (f : Nat) (w : World) : (binOp .neq 82 (vF f) .nilFunc).run Tryd.prog w = .ok (.bool true) w := by kernel_rfl
theorem run_neq82_n (w : World) : (binOp .neq 82 vN .nilFunc).run Tryd.prog w = .ok (.bool false) w := by kernel_rfl
def lenOf : Value → Nat
  | .slice _ n _ => n
  | _ => 0
end Go.Proofs.YtingenonbkencaaDoor
namespace Go.Proofs.YtingenonbkencaaDoor
open Go.RowKit (wrap32 wrap64)
set_option linter.unusedVariables false
set_option linter.unusedSimpArgs false
def frontOk {b : Nat} (M : Mode b) (ends makes nb : Bool) (i : Nat) (p : Int) (y : WS × M.σ) : X (WS × M.σ) :=
  if nb = false then .error (1, p)
  else if (ends || decide ((i : Int) < y.1.len - 1)) = false then .error (19, p)
  else if makes then locX M 1 p y else .ok y
def StepR (J : World → Prop) (Post : Ending → World → Prop) (e : Ending) (w' : World) : Prop :=
  (e = .returned (.tuple #[]) ∧ J w') ∨ ∃ c, e = .panicked c ∧ Post (.panicked c) w'
end Go.Proofs.YtingenonbkencaaDoor
