import Derived.Test.YtingenonbkencaaDoorQA3
set_option linter.unusedVariables false
set_option linter.unusedSimpArgs false
namespace Go.Proofs.YtingenonbkencaaDoor
open Go.RowKit (wrap32 wrap64)
def NextAt {b : Nat} (M : Mode b) (rm : M.σ → Nat) : Prop := ∀ (o : Nat), o ∈ places → ∀ (x : WS × M.σ) (size : Nat) (w : World), 1 ≤ rm x.2 → On M w x → 1 ≤ size → size ≤ 8 →
 Calls Tryd.prog 90 #[.pointer (some ⟨b, 0, none⟩), .pointer (some ⟨b, o, none⟩), .int .i64 size] w fun e w' => Fr M.SB w w' ∧
  match nextX M o size x with
  | .ok y => e = .returned (vI x.1.at') ∧ On M w' y
  | .error z => e = .panicked (viol z.1 z.2)
theorem NextOwn.at {b : Nat} {M : Mode b} (h : NextOwn M) (rm : M.σ → Nat) : NextAt M rm := fun o ho x size w _ hon h1 h8 => h o ho x size w hon h1 h8
def RoomGoes {b : Nat} (M : Mode b) (rm : M.σ → Nat) : Prop := ∀ o size x y, nextX M o size x = .ok y → rm x.2 ≤ rm y.2 + 1
end Go.Proofs.YtingenonbkencaaDoor
