import Derived.Test.YtingenonbkencaaDoorQB1
namespace Go.Proofs.YtingenonbkencaaDoor
open Go.RowKit (wrap32 wrap64)
set_option linter.unusedVariables false
set_option linter.unusedSimpArgs false
set_option maxRecDepth 100000
set_option maxHeartbeats 1000000
theorem mixed : Tryd.prog.follows .mixedOrders = true := by kernel_rfl
theorem numberN_own {b : Nat} (M : Mode b) (hN : NextOwn M) (x : WS × M.σ) (w : World) (h : On M w x) (op size : Nat) (hop : x.1.op = op) (hlt : op < 18) (hsz : szs.getD op 0 = size) (hs1 : 1 ≤ size) (hs8 : size ≤ 8) :
    Calls Tryd.prog 99 #[.pointer (some ⟨b, 0, none⟩), .pointer (some ⟨b, 158, none⟩)] w fun e w' => Fr M.SB w w' ∧
    match nextX M 158 size x with
    | .ok y => e = .returned (vI x.1.at') ∧ On M w' y
    | .error z => e = .panicked (viol z.1 z.2) := by
  have hc : w.cell? ⟨b, 154, none⟩ = some (vI op) := by rw [h.1.cell, ← hop]; kernel_rfl
  have hT : w.cell? ⟨0, op, none⟩ = some (vI (size : Nat)) := by rw [M.tab _ _ _ h.2.2 op hlt, hsz]
  have hlt' : 0 ≤ (op : Int) ∧ (op : Int) < 18 := by omega
  clear hsz
  cases hx : nextX M 158 size x with
  | error z =>
    go_enter Tryd.func99, Tryd.ntmps99
    go_wp2_with fail
    refine (hN 158 (by simp [places]) x size w h hs1 hs8).mono ?_
    rintro e w1 ⟨hf, hres⟩
    simp only [hx] at hres
    subst hres
    go_wp2_with fail
    exact ⟨rfl, hf, rfl⟩
  | ok y =>
    go_enter Tryd.func99, Tryd.ntmps99
    go_wp2_with fail
    refine (hN 158 (by simp [places]) x size w h hs1 hs8).mono ?_
    rintro e w1 ⟨hf, hres⟩
    simp only [hx] at hres
    obtain ⟨rfl, hon⟩ := hres
    go_wp2_with fail
    go_ret
    exact ⟨hf, rfl, hon⟩
end Go.Proofs.YtingenonbkencaaDoor
