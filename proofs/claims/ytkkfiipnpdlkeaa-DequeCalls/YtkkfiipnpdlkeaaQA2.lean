import Derived.Test.YtkkfiipnpdlkeaaQA1
namespace Go.Proofs.Ytkkfiipnpdlkeaa
open Go.RowKit (wrap32 wrap64)
open Go.MuLone
set_option linter.unusedVariables false
set_option linter.unusedSimpArgs false

set_option maxRecDepth 100000 in
set_option maxHeartbeats 1000000 in
/-- place -/
theorem place_any (b : Nat) (p : Option Addr) (n cap far m : Nat) (w : World) (c2 : w.cell? ⟨b, 2, none⟩ = some (.slice p n cap)) (c3 : w.cell? ⟨b, 3, none⟩ = some (vI far)) (hn : 1 ≤ n) (hb : far + m ≤ 1000000000000000) (hn2 : n ≤ 1000000000000000) :
    Calls Try.prog 31 #[.pointer (some ⟨b, 2, none⟩), vI m] w fun e w' => e = .returned (vI ((far + m) % n : Nat)) ∧ w' = w.drew := by
  have hw : wrap64 ((far : Int) + m) = ((far + m : Nat) : Int) := by rw [w64 (by omega) (by omega)]; omega
  have h0 : ¬ (n : Int) = 0 := by omega
  have hm : (((far + m : Nat) : Int)).tmod n = ((far + m) % n : Nat) := by
    rw [Int.tmod_eq_emod_of_nonneg (by omega)]; omega
  have hlt : (far + m) % n < n := Nat.mod_lt _ (by omega)
  have hw2 : wrap64 (((far + m) % n : Nat) : Int) = ((far + m) % n : Nat) := w64 (by omega) (by omega)
  clear hlt hn hb hn2
  go_enter Try.func31, Try.ntmps31
  go_wp2_with fail
  go_region
  all_goals go_wp2_with fail
  all_goals go_ret
  all_goals exact ⟨rfl, rfl⟩

set_option maxRecDepth 100000 in
set_option maxHeartbeats 1000000 in
/-- take -/
theorem take_any (b g n cap k : Nat) (x : Int) (w : World) (c2 : w.cell? ⟨b, 2, none⟩ = some (.slice (some ⟨g, 0, none⟩) n cap)) (hk : k < n) (cx : w.cell? ⟨g, k, none⟩ = some (vI x)) (z : w.frozen? ⟨g, k, none⟩ = false) :
    Calls Try.prog 32 #[.pointer (some ⟨b, 2, none⟩), vI k] w fun e w' => e = .returned (vI x) ∧ w' = w.setCell ⟨g, k, none⟩ (vI 0) := by
  have h0 : (0 : Int) ≤ k := by omega
  have h1 : (k : Int) < n := by omega
  clear hk
  go_enter Try.func32, Try.ntmps32
  go_wp2_with fail
  go_ret
  exact ⟨rfl, rfl⟩
end Go.Proofs.Ytkkfiipnpdlkeaa
